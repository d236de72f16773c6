/- find, value and Pick of the reference. Conditions: at most a million pairs. -/
import Derived.Lib.AppendZerosOnto
import Derived.WalkSpells
import Derived.Deep.RegionHeld3
import Derived.Deep.QuietTactic
import Derived.Test.YtgipkikedacmdaaGreatMg38
import Derived.Test.YtgipkikedacmdaaGreatMg10
set_option maxRecDepth 100000
set_option maxHeartbeats 16000000
set_option linter.unusedVariables false
set_option linter.unusedSimpArgs false
namespace Go.Proofs.YtgipkikedacmdaaGreat
open Go.Lib renaming hid → hI
open S3 SN
namespace SP
open Go.ChangeShapes Go.WideShapes Go.ChangeAt Go.RowKit Go.Joins Go.Deep
theorem cells_two (X : World) (u v : Value) (t : TypeId) (n : Nat) (h : X.heap.size = n) : (X.alloc (.cells #[u, v] t)).cell? ⟨n, 0, none⟩ = some u ∧ (X.alloc (.cells #[u, v] t)).cell? ⟨n, 1, none⟩ = some v ∧ n < (X.alloc (.cells #[u, v] t)).heap.size := by
 subst h
 have hb : (X.alloc (.cells #[u, v] t)).heap[X.heap.size]? = some (.cells #[u, v] t (0, 0)) := by
  show (X.heap.push _)[X.heap.size]? = _
  simp
 refine ⟨?_, ?_, by simp⟩
 ·simp only [World.cell?, hb]; rfl
 ·simp only [World.cell?, hb]; rfl

theorem diff_atG {α : Type} [DecidableEq α] {l m : List α} {q : Nat} {s t : α} (hs : l[q]? = some s) (ht : m[q]? = some t) (h : s ≠ t) : decide (l = m) = false := by
 simp only [decide_eq_false_iff_not]
 rintro rfl
 rw [hs] at ht
 exact h (by simpa using ht)
theorem opsame_any (va vb : Value) (l m : List Opr) (w : World) (hl : l.length ≤ 1000000) (hm : m.length ≤ 1000000) (ha : SlG eO w va l) (hb : SlG eO w vb m) :
  Calls Tryz.prog 29 #[va, vb] w fun e w' => e = .returned (.bool (decide (l = m))) ∧ Below w.heap.size w w' := by
 obtain ⟨aa, ca, rfl⟩ := ha.form
 obtain ⟨ab, cb, rfl⟩ := hb.form
 have HA := hI ha
 have HB := hI hb
 clear ha hb
 generalize hv : decide (l = m) = v
 have HV := hI hv
 clear hv
 by_cases hlm : l.length = m.length
 ·have hlmB : ((l.length : Int) == (m.length : Int)) = true := by simp [hlm]
  have hlmB2 : ((l.length : Int) != (m.length : Int)) = false := by simp [hlm]
  have HLM := hI hlm
  clear hlm
  go_enter Tryz.func29, Tryz.ntmps29
  go_wp2
  go_loopw [5] (fun i wr => ∃ q : Nat, q ≤ l.length ∧ i = .int .i64 q ∧ l.take q = m.take q ∧ Below w.heap.size w wr) (fun i _ => l.length - (RowKit.intOf i).toNat)
  case atStart => exact ⟨0, Nat.zero_le _, rfl, rfl, Below.refl _ _⟩
  case round =>
   obtain ⟨q, hq, rfl, hno, hb⟩ := hrel
   have HNO := hI hno
   have HBW := hI hb
   by_cases hlt : q < l.length
   ·obtain ⟨s, hs⟩ := at_lt hlt
    obtain ⟨t, ht⟩ := at_lt (l := m) (k := q) (by have := HLM.out; omega)
    obtain ⟨g, o, rfl, hg, c0, c1, c2, c3⟩ := ops_at HA.out hs
    obtain ⟨g', o', rfl, hg', d0, d1, d2, d3⟩ := ops_at HB.out ht
    replace c0 := cell_in hb hg c0
    replace d0 := cell_in hb hg' d0
    replace c1 := cell_in hb hg c1
    replace d1 := cell_in hb hg' d1
    replace c2 := cell_in hb hg c2
    replace d2 := cell_in hb hg' d2
    replace c3 := cell_in hb hg c3
    replace d3 := cell_in hb hg' d3
    have hgw := Nat.lt_of_lt_of_le hg hb.size
    have hgw' := Nat.lt_of_lt_of_le hg' hb.size
    have hqm : (q : Int) < (m.length : Int) := by have := HLM.out; omega
    have hq0 : (0 : Int) ≤ (q : Int) := by omega
    have hql : (q : Int) < (l.length : Int) := by omega
    have HS := hI hs
    have HT := hI ht
    clear hs ht hno hb
    cases e0 : (s.1 == t.1)
    ·skip
     have HF : Hid (decide (l = m) = false) := diff_atG HS.out HT.out (by rintro rfl; simp at e0)
     go_wp2
     go_quiet (fail)
     go_wp2
     go_ret
     exact ⟨ret_bool (HF.out.symm.trans HV.out), HBW.out.trans ⟨rfl, rfl, rfl, Nat.le_refl _, fun _ _ => rfl⟩⟩
    ·skip
     cases e1 : (s.2.1.toList == t.2.1.toList)
     ·skip
      have HF : Hid (decide (l = m) = false) := diff_atG HS.out HT.out (by rintro rfl; simp at e1)
      go_wp2
      go_quiet (fail)
      go_wp2
      go_ret
      exact ⟨ret_bool (HF.out.symm.trans HV.out), HBW.out.trans ⟨rfl, rfl, rfl, Nat.le_refl _, fun _ _ => rfl⟩⟩
     ·skip
      cases e2 : (s.2.2.1.toList == t.2.2.1.toList)
      ·skip
       have HF : Hid (decide (l = m) = false) := diff_atG HS.out HT.out (by rintro rfl; simp at e2)
       go_wp2
       go_quiet (fail)
       go_wp2
       go_ret
       exact ⟨ret_bool (HF.out.symm.trans HV.out), HBW.out.trans ⟨rfl, rfl, rfl, Nat.le_refl _, fun _ _ => rfl⟩⟩
      ·skip
       cases e3 : (((s.2.2.2 : Nat) : Int) == ((t.2.2.2 : Nat) : Int))
       ·skip
        have n3 : (s.2.2.2 == t.2.2.2) = false := by
         rw [beq_eq_false_iff_ne]; intro h; rw [h] at e3; simp at e3
        have HF : Hid (decide (l = m) = false) := diff_atG HS.out HT.out (by rintro rfl; simp at e3)
        go_wp2
        go_quiet (fail)
        go_wp2
        go_ret
        exact ⟨ret_bool (HF.out.symm.trans HV.out), HBW.out.trans ⟨rfl, rfl, rfl, Nat.le_refl _, fun _ _ => rfl⟩⟩
       ·skip
        have n3 : (s.2.2.2 == t.2.2.2) = true := by
         have := e3; simp at this; rw [beq_iff_eq]; omega
        have HE : Hid (s = t) := Prod.ext ((by simpa using e0)) (Prod.ext (text_ext (by simpa using e1)) (Prod.ext (text_ext (by simpa using e2)) ((by have := e3; simp at this; omega))))
        go_wp2
        go_quiet (fail)
        go_wp2
        go_roundw
        case rel => exact ⟨q + 1, hlt, by go_num, by rw [List.take_add_one, List.take_add_one, HS.out, HT.out, HNO.out, HE.out], HBW.out.trans ⟨rfl, rfl, rfl, Nat.le_refl _, fun _ _ => rfl⟩⟩
        case measure => simp [RowKit.intOf]; omega
   ·obtain rfl : q = l.length := by omega
    have HF : Hid (decide (l = m) = true) := by
     have h := HNO.out
     rw [List.take_length, HLM.out, List.take_length] at h
     show decide (l = m) = true
     simp [h]
    clear hno hb
    go_wp2
    go_ret
    exact ⟨ret_bool (HF.out.symm.trans HV.out), HBW.out⟩
 ·have HF : Hid (decide (l = m) = false) := by
   show decide (l = m) = false
   simp only [decide_eq_false_iff_not]
   rintro rfl
   exact hlm rfl
  have hlmB : ((l.length : Int) == (m.length : Int)) = false := by simp; omega
  have hlmB2 : ((l.length : Int) != (m.length : Int)) = true := by simp; omega
  go_enter Tryz.func29, Tryz.ntmps29
  go_wp2
  go_ret
  exact ⟨ret_bool (HF.out.symm.trans HV.out), Below.refl _ _⟩
theorem prsame_any (va vb : Value) (l m : List (ByteArray × Nat)) (w : World) (hl : l.length ≤ 1000000) (hm : m.length ≤ 1000000) (ha : SlG eP w va l) (hb : SlG eP w vb m) :
  Calls Tryz.prog 65 #[va, vb] w fun e w' => e = .returned (.bool (decide (l = m))) ∧ Below w.heap.size w w' := by
 obtain ⟨aa, ca, rfl⟩ := ha.form
 obtain ⟨ab, cb, rfl⟩ := hb.form
 have HA := hI ha
 have HB := hI hb
 clear ha hb
 generalize hv : decide (l = m) = v
 have HV := hI hv
 clear hv
 by_cases hlm : l.length = m.length
 ·have hlmB : ((l.length : Int) == (m.length : Int)) = true := by simp [hlm]
  have hlmB2 : ((l.length : Int) != (m.length : Int)) = false := by simp [hlm]
  have HLM := hI hlm
  clear hlm
  go_enter Tryz.func65, Tryz.ntmps65
  go_wp2
  go_loopw [5] (fun i wr => ∃ q : Nat, q ≤ l.length ∧ i = .int .i64 q ∧ l.take q = m.take q ∧ Below w.heap.size w wr) (fun i _ => l.length - (RowKit.intOf i).toNat)
  case atStart => exact ⟨0, Nat.zero_le _, rfl, rfl, Below.refl _ _⟩
  case round =>
   obtain ⟨q, hq, rfl, hno, hb⟩ := hrel
   have HNO := hI hno
   have HBW := hI hb
   by_cases hlt : q < l.length
   ·obtain ⟨s, hs⟩ := at_lt hlt
    obtain ⟨t, ht⟩ := at_lt (l := m) (k := q) (by have := HLM.out; omega)
    obtain ⟨g, o, rfl, hg, c0, c1⟩ := prs_at HA.out hs
    obtain ⟨g', o', rfl, hg', d0, d1⟩ := prs_at HB.out ht
    replace c0 := cell_in hb hg c0
    replace d0 := cell_in hb hg' d0
    replace c1 := cell_in hb hg c1
    replace d1 := cell_in hb hg' d1
    have hgw := Nat.lt_of_lt_of_le hg hb.size
    have hgw' := Nat.lt_of_lt_of_le hg' hb.size
    have hqm : (q : Int) < (m.length : Int) := by have := HLM.out; omega
    have hq0 : (0 : Int) ≤ (q : Int) := by omega
    have hql : (q : Int) < (l.length : Int) := by omega
    have HS := hI hs
    have HT := hI ht
    clear hs ht hno hb
    cases e0 : (s.1.toList == t.1.toList)
    ·skip
     have HF : Hid (decide (l = m) = false) := diff_atG HS.out HT.out (by rintro rfl; simp at e0)
     go_wp2
     go_quiet (fail)
     go_wp2
     go_ret
     exact ⟨ret_bool (HF.out.symm.trans HV.out), HBW.out.trans ⟨rfl, rfl, rfl, Nat.le_refl _, fun _ _ => rfl⟩⟩
    ·skip
     cases e1 : (((s.2 : Nat) : Int) == ((t.2 : Nat) : Int))
     ·skip
      have n1 : (s.2 == t.2) = false := by
       rw [beq_eq_false_iff_ne]; intro h; rw [h] at e1; simp at e1
      have HF : Hid (decide (l = m) = false) := diff_atG HS.out HT.out (by rintro rfl; simp at e1)
      go_wp2
      go_quiet (fail)
      go_wp2
      go_ret
      exact ⟨ret_bool (HF.out.symm.trans HV.out), HBW.out.trans ⟨rfl, rfl, rfl, Nat.le_refl _, fun _ _ => rfl⟩⟩
     ·skip
      have n1 : (s.2 == t.2) = true := by
       have := e1; simp at this; rw [beq_iff_eq]; omega
      have HE : Hid (s = t) := Prod.ext (text_ext (by simpa using e0)) ((by have := e1; simp at this; omega))
      go_wp2
      go_quiet (fail)
      go_wp2
      go_roundw
      case rel => exact ⟨q + 1, hlt, by go_num, by rw [List.take_add_one, List.take_add_one, HS.out, HT.out, HNO.out, HE.out], HBW.out.trans ⟨rfl, rfl, rfl, Nat.le_refl _, fun _ _ => rfl⟩⟩
      case measure => simp [RowKit.intOf]; omega
   ·obtain rfl : q = l.length := by omega
    have HF : Hid (decide (l = m) = true) := by
     have h := HNO.out
     rw [List.take_length, HLM.out, List.take_length] at h
     show decide (l = m) = true
     simp [h]
    clear hno hb
    go_wp2
    go_ret
    exact ⟨ret_bool (HF.out.symm.trans HV.out), HBW.out⟩
 ·have HF : Hid (decide (l = m) = false) := by
   show decide (l = m) = false
   simp only [decide_eq_false_iff_not]
   rintro rfl
   exact hlm rfl
  have hlmB : ((l.length : Int) == (m.length : Int)) = false := by simp; omega
  have hlmB2 : ((l.length : Int) != (m.length : Int)) = true := by simp; omega
  go_enter Tryz.func65, Tryz.ntmps65
  go_wp2
  go_ret
  exact ⟨ret_bool (HF.out.symm.trans HV.out), Below.refl _ _⟩
theorem wrsame_any (va vb : Value) (l m : List Wrt) (w : World) (hl : l.length ≤ 1000000) (hm : m.length ≤ 1000000) (ha : SlG eW w va l) (hb : SlG eW w vb m) :
  Calls Tryz.prog 64 #[va, vb] w fun e w' => e = .returned (.bool (decide (l = m))) ∧ Below w.heap.size w w' := by
 obtain ⟨aa, ca, rfl⟩ := ha.form
 obtain ⟨ab, cb, rfl⟩ := hb.form
 have HA := hI ha
 have HB := hI hb
 clear ha hb
 generalize hv : decide (l = m) = v
 have HV := hI hv
 clear hv
 by_cases hlm : l.length = m.length
 ·have hlmB : ((l.length : Int) == (m.length : Int)) = true := by simp [hlm]
  have hlmB2 : ((l.length : Int) != (m.length : Int)) = false := by simp [hlm]
  have HLM := hI hlm
  clear hlm
  go_enter Tryz.func64, Tryz.ntmps64
  go_wp2
  go_loopw [5] (fun i wr => ∃ q : Nat, q ≤ l.length ∧ i = .int .i64 q ∧ l.take q = m.take q ∧ Below w.heap.size w wr) (fun i _ => l.length - (RowKit.intOf i).toNat)
  case atStart => exact ⟨0, Nat.zero_le _, rfl, rfl, Below.refl _ _⟩
  case round =>
   obtain ⟨q, hq, rfl, hno, hb⟩ := hrel
   have HNO := hI hno
   have HBW := hI hb
   by_cases hlt : q < l.length
   ·obtain ⟨s, hs⟩ := at_lt hlt
    obtain ⟨t, ht⟩ := at_lt (l := m) (k := q) (by have := HLM.out; omega)
    obtain ⟨g, o, rfl, hg, c0, c1, c2⟩ := wrs_at HA.out hs
    obtain ⟨g', o', rfl, hg', d0, d1, d2⟩ := wrs_at HB.out ht
    replace c0 := cell_in hb hg c0
    replace d0 := cell_in hb hg' d0
    replace c1 := cell_in hb hg c1
    replace d1 := cell_in hb hg' d1
    replace c2 := cell_in hb hg c2
    replace d2 := cell_in hb hg' d2
    have hgw := Nat.lt_of_lt_of_le hg hb.size
    have hgw' := Nat.lt_of_lt_of_le hg' hb.size
    have hqm : (q : Int) < (m.length : Int) := by have := HLM.out; omega
    have hq0 : (0 : Int) ≤ (q : Int) := by omega
    have hql : (q : Int) < (l.length : Int) := by omega
    have HS := hI hs
    have HT := hI ht
    clear hs ht hno hb
    cases e0 : (s.1.toList == t.1.toList)
    ·skip
     have HF : Hid (decide (l = m) = false) := diff_atG HS.out HT.out (by rintro rfl; simp at e0)
     go_wp2
     go_quiet (fail)
     go_wp2
     go_ret
     exact ⟨ret_bool (HF.out.symm.trans HV.out), HBW.out.trans ⟨rfl, rfl, rfl, Nat.le_refl _, fun _ _ => rfl⟩⟩
    ·skip
     cases e1 : (((s.2.1 : Nat) : Int) == ((t.2.1 : Nat) : Int))
     ·skip
      have n1 : (s.2.1 == t.2.1) = false := by
       rw [beq_eq_false_iff_ne]; intro h; rw [h] at e1; simp at e1
      have HF : Hid (decide (l = m) = false) := diff_atG HS.out HT.out (by rintro rfl; simp at e1)
      go_wp2
      go_quiet (fail)
      go_wp2
      go_ret
      exact ⟨ret_bool (HF.out.symm.trans HV.out), HBW.out.trans ⟨rfl, rfl, rfl, Nat.le_refl _, fun _ _ => rfl⟩⟩
     ·skip
      have n1 : (s.2.1 == t.2.1) = true := by
       have := e1; simp at this; rw [beq_iff_eq]; omega
      cases e2 : (s.2.2 == t.2.2)
      ·skip
       have HF : Hid (decide (l = m) = false) := diff_atG HS.out HT.out (by rintro rfl; simp at e2)
       go_wp2
       go_quiet (fail)
       go_wp2
       go_ret
       exact ⟨ret_bool (HF.out.symm.trans HV.out), HBW.out.trans ⟨rfl, rfl, rfl, Nat.le_refl _, fun _ _ => rfl⟩⟩
      ·skip
       have HE : Hid (s = t) := Prod.ext (text_ext (by simpa using e0)) (Prod.ext ((by have := e1; simp at this; omega)) ((by simpa using e2)))
       go_wp2
       go_quiet (fail)
       go_wp2
       go_roundw
       case rel => exact ⟨q + 1, hlt, by go_num, by rw [List.take_add_one, List.take_add_one, HS.out, HT.out, HNO.out, HE.out], HBW.out.trans ⟨rfl, rfl, rfl, Nat.le_refl _, fun _ _ => rfl⟩⟩
       case measure => simp [RowKit.intOf]; omega
   ·obtain rfl : q = l.length := by omega
    have HF : Hid (decide (l = m) = true) := by
     have h := HNO.out
     rw [List.take_length, HLM.out, List.take_length] at h
     show decide (l = m) = true
     simp [h]
    clear hno hb
    go_wp2
    go_ret
    exact ⟨ret_bool (HF.out.symm.trans HV.out), HBW.out⟩
 ·have HF : Hid (decide (l = m) = false) := by
   show decide (l = m) = false
   simp only [decide_eq_false_iff_not]
   rintro rfl
   exact hlm rfl
  have hlmB : ((l.length : Int) == (m.length : Int)) = false := by simp; omega
  have hlmB2 : ((l.length : Int) != (m.length : Int)) = true := by simp; omega
  go_enter Tryz.func64, Tryz.ntmps64
  go_wp2
  go_ret
  exact ⟨ret_bool (HF.out.symm.trans HV.out), Below.refl _ _⟩

def AnsL (w : World) (v : Value) (l : List AnR) : Prop := SlG eA w v l ∧ ∀ r ∈ l, SlG eP w (.slice r.at_ r.prs.length r.cap) r.prs
theorem AnsL.later {W wr : World} {v : Value} {l : List AnR} (h : AnsL W v l) (hw : Below W.heap.size W wr) : AnsL wr v l := ⟨h.1.later hw, fun r hr => (h.2 r hr).later hw⟩
def aheadB (o : Option ByteArray) (k : ByteArray) : Bool := match o with | none => true | some j => ltT j k
def dataB : Option ByteArray → Al Nat → Bool
 | _, [] => true
 | o, p :: l => keyB p.1 && decide (rtN p.2 = p.2) && aheadB o p.1 && dataB (some p.1) l
theorem dataB_cons (o : Option ByteArray) (p : ByteArray × Nat) (l : Al Nat) : dataB o (p :: l) = (keyB p.1 && decide (rtN p.2 = p.2) && aheadB o p.1 && dataB (some p.1) l) := rfl
theorem dataB_nil (o : Option ByteArray) : dataB o [] = true := rfl
def lastK (l : Al Nat) : Option ByteArray := l.getLast?.map Prod.fst
theorem dataB_snoc : ∀ (l : Al Nat) (o : Option ByteArray) (p : ByteArray × Nat), dataB o (l ++ [p]) = (dataB o l && (keyB p.1 && decide (rtN p.2 = p.2) && aheadB (if l = [] then o else lastK l) p.1))
 | [], o, p => by rw [List.nil_append, dataB_cons, dataB_nil, dataB_nil, if_pos rfl, Bool.and_true, Bool.true_and]
 | q :: l, o, p => by
  rw [List.cons_append, dataB_cons, dataB_snoc l, dataB_cons]
  have e : (if l = [] then some q.1 else lastK l) = (if q :: l = [] then o else lastK (q :: l)) := by
   rw [if_neg (by simp : ¬ q :: l = [])]
   cases l with
   | nil => simp [lastK]
   | cons r l => rw [if_neg (by simp : ¬ r :: l = [])]; simp [lastK]
  rw [e]
  simp only [Bool.and_assoc]
theorem dataB_front {l : Al Nat} (k : Nat) (o : Option ByteArray) (h : dataB o l = true) : dataB o (l.take k) = true := by
 induction l generalizing k o with
 | nil => simpa using h
 | cons q l ih =>
  cases k with
  | zero => exact dataB_nil _
  | succ k =>
   rw [List.take_succ_cons, dataB_cons, Bool.and_eq_true]
   rw [dataB_cons, Bool.and_eq_true] at h
   exact ⟨h.1, ih k _ h.2⟩

theorem dataB_step {l : Al Nat} {k : Nat} {p : ByteArray × Nat} (hp : l[k]? = some p) (h : dataB none (l.take k) = true) : dataB none (l.take (k + 1)) = (keyB p.1 && decide (rtN p.2 = p.2) && aheadB (if l.take k = [] then none else lastK (l.take k)) p.1) := by
 rw [List.take_add_one, hp]
 show dataB none (l.take k ++ [p]) = _
 rw [dataB_snoc, h, Bool.true_and]
theorem lastK_take {l : Al Nat} {k : Nat} {q : ByteArray × Nat} (hq : l[k]? = some q) : lastK (l.take (k + 1)) = some q.1 := by
 unfold lastK
 rw [List.take_add_one, hq]
 simp
theorem dataB_bad {l : Al Nat} (k : Nat) (h : dataB none (l.take k) = false) : dataB none l = false := by
 cases h2 : dataB none l
 ·rfl
 ·rw [dataB_front k none h2] at h
  cases h

theorem info_pr : (Tryz.prog.info? 86).map (fun i => (i.zero, i.size, i.bytes)) = some (some (.agg #[.string ⟨#[]⟩, .int .u64 0]), eP.K, 24) := by kernel_rfl
theorem info_wr : (Tryz.prog.info? 84).map (fun i => (i.zero, i.size, i.bytes)) = some (some (.agg #[.string ⟨#[]⟩, .int .u64 0, .bool false]), eW.K, 32) := by kernel_rfl
theorem info_op : (Tryz.prog.info? 79).map (fun i => (i.zero, i.size, i.bytes)) = some (some (.agg #[.int .i64 0, .string ⟨#[]⟩, .string ⟨#[]⟩, .int .u64 0]), eO.K, 48) := by kernel_rfl
theorem one_G {α : Type} (E : Enc α) (X : World) (t : TypeId) (x : α) (n : Nat) (cs : Array Value) (hcs : cs = (E.enc x).toArray) (h : X.heap.size = n) : SlG E (X.alloc (.cells cs t)) (.slice (some ⟨n, 0, none⟩) 1 1) [x] := by
 subst h
 subst hcs
 refine ⟨_, 1, rfl, fun h => (by cases h), fun _ => ⟨X.heap.size, 0, rfl, by simp, fun i y hi j u hu => ?_⟩⟩
 have hb : (X.alloc (.cells (E.enc x).toArray t)).heap[X.heap.size]? = some (.cells (E.enc x).toArray t (0, 0)) := by
  show (X.heap.push _)[X.heap.size]? = _
  simp
 cases i with
 | zero =>
  simp only [List.getElem?_cons_zero, Option.some.injEq] at hi
  subst hi
  simp only [World.cell?, hb]
  rw [Nat.zero_mul, Nat.add_zero, Nat.zero_add, List.getElem?_toArray]
  exact hu
 | succ i => simp at hi
end SP
end Go.Proofs.YtgipkikedacmdaaGreat
