/- The reference's in, Has, Same. Conditions: lists of at most a million spans. -/
import Derived.Test.YtkgfpppbpjinaaaKn
import Derived.Test.YtkgfpppbpjinaaaKo
namespace Go.Proofs.Ytkgfpppbpjinaaa
open Go.RowKit

set_option maxHeartbeats 1000000 in
theorem refin_any (s : Sp) (k : ByteArray) (w : World) :
    Calls Try.prog 45 #[.agg #[.string s.1, .string s.2], .string k] w fun e w' => e = .returned (.bool (inS s k)) ∧ w' = w.alloc (.cells #[.string s.1, .string s.2] 35) := by
  generalize hv : inS s k = v
  have HV := Lib.hid hv
  clear hv
  cases h1 : ltT k s.1 <;> cases h2 : noT s.2
  · have hf : inS s k = ltT k s.2 := by simp [inS, h1, h2]
    have HF := Lib.hid (HV.out.symm.trans hf)
    have t1 : Op.bytesLess k.toList s.1.toList = false := h1
    have t2 : s.2.toList.isEmpty = false := h2
    clear h1 h2 hf
    go_enter Try.func45, Try.ntmps45
    go_wp2
    go_ret
    exact ⟨ret_bool HF.out.symm, rfl⟩
  · have hf : inS s k = true := by simp [inS, h1, h2]
    have HF := Lib.hid (HV.out.symm.trans hf)
    have t1 : Op.bytesLess k.toList s.1.toList = false := h1
    have t2 : s.2.toList.isEmpty = true := h2
    clear h1 h2 hf
    go_enter Try.func45, Try.ntmps45
    go_wp2
    go_ret
    exact ⟨ret_bool HF.out.symm, rfl⟩
  all_goals
    have hf : inS s k = false := by simp [inS, h1]
    have HF := Lib.hid (HV.out.symm.trans hf)
    have t1 : Op.bytesLess k.toList s.1.toList = true := h1
    clear h1 h2 hf
    go_enter Try.func45, Try.ntmps45
    go_wp2
    go_ret
    exact ⟨ret_bool HF.out.symm, rfl⟩

theorem memL_take {l : List Sp} {k : ByteArray} (i : Nat) {s : Sp} (hs : l[i]? = some s) (h : memL (l.take i) k = false) (hn : inS s k = false) : memL (l.take (i + 1)) k = false := by
  rw [List.take_add_one, hs, memL_append, h]
  simp [memL_cons, memL_nil, hn]
theorem memL_found {l : List Sp} {k : ByteArray} {i : Nat} {s : Sp} (hs : l[i]? = some s) (hn : inS s k = true) : memL l k = true := memL_true.2 ⟨s, List.mem_of_getElem? hs, hn⟩

set_option maxHeartbeats 1000000 in
theorem refhas_any (va : Value) (l : List Sp) (k : ByteArray) (w : World) (hlen : l.length ≤ 1000000) (ha : Sl w va l) :
    Calls Try.prog 30 #[va, .string k] w fun e w' => e = .returned (.bool (memL l k)) ∧ Below w.heap.size w w' := by
  obtain ⟨aa, ca, rfl⟩ := ha.form
  have HA := Lib.hid ha
  clear ha
  generalize hv : memL l k = v
  have HV := Lib.hid hv
  clear hv
  go_enter Try.func30, Try.ntmps30
  go_wp2
  go_loopw [5] (fun i wr => ∃ q : Nat, q ≤ l.length ∧ i = .int .i64 q ∧ memL (l.take q) k = false ∧ Below w.heap.size w wr) (fun i _ => l.length - (intOf i).toNat)
  case atStart => exact ⟨0, Nat.zero_le _, rfl, rfl, Below.refl _ _⟩
  case round =>
    obtain ⟨q, hq, rfl, hno, hb⟩ := hrel
    have HNO := Lib.hid hno
    have HB := Lib.hid hb
    by_cases hlt : q < l.length
    · obtain ⟨s, hs⟩ := at_lt hlt
      obtain ⟨g, o, rfl, hg, c0, c1⟩ := HA.out.at hs
      replace c0 := cell_in hb hg c0
      replace c1 := cell_in hb hg c1
      have hgw := Nat.lt_of_lt_of_le hg hb.size
      cases hi : inS s k
      · have HI := Lib.hid hi
        have HN := Lib.hid (memL_take q hs hno hi)
        clear hs hno hb hi
        go_wp2_with (go_at_call 45; refine (refin_any s k _).mono ?_; rintro e w2 ⟨rfl, rfl⟩; rw [HI.out])
        go_roundw
        case rel => exact ⟨q + 1, hlt, by go_num, HN.out, blAlloc HB.out _⟩
        case measure => simp [intOf]; omega
      · have HI := Lib.hid hi
        have HN := Lib.hid (memL_found hs hi)
        clear hs hno hb hi
        go_wp2_with (go_at_call 45; refine (refin_any s k _).mono ?_; rintro e w2 ⟨rfl, rfl⟩; rw [HI.out])
        go_ret
        exact ⟨ret_bool (HN.out.symm.trans HV.out), blAlloc HB.out _⟩
    · obtain rfl : q = l.length := by omega
      have HF : Hid (memL l k = false) := by have h := HNO.out; rwa [List.take_length] at h
      clear hno hb
      go_wp2
      go_ret
      exact ⟨ret_bool (HF.out.symm.trans HV.out), HB.out⟩

/-- Two lists are the same. -/
def sameB (l m : List Sp) : Bool := decide (l = m)
theorem diff_at {l m : List Sp} {q : Nat} {s t : Sp} (hs : l[q]? = some s) (ht : m[q]? = some t) (h : s ≠ t) : sameB l m = false := by
  simp only [sameB, decide_eq_false_iff_not]
  rintro rfl
  rw [hs] at ht
  exact h (by simpa using ht)
set_option maxRecDepth 100000 in
set_option maxHeartbeats 1000000 in
theorem same_any (va vb : Value) (l m : List Sp) (w : World) (hl : l.length ≤ 1000000) (hm : m.length ≤ 1000000) (ha : Sl w va l) (hb : Sl w vb m) :
    Calls Try.prog 24 #[va, vb] w fun e w' => e = .returned (.bool (sameB l m)) ∧ Below w.heap.size w w' := by
  obtain ⟨aa, ca, rfl⟩ := ha.form
  obtain ⟨ab, cb, rfl⟩ := hb.form
  have HA := Lib.hid ha
  have HB := Lib.hid hb
  clear ha hb
  generalize hv : sameB l m = v
  have HV := Lib.hid hv
  clear hv
  by_cases hlm : l.length = m.length
  · have hlmB : ((l.length : Int) == (m.length : Int)) = true := by simp [hlm]
    have hlmB2 : ((l.length : Int) != (m.length : Int)) = false := by simp [hlm]
    have HLM := Lib.hid hlm
    clear hlm
    go_enter Try.func24, Try.ntmps24
    go_wp2
    go_loopw [5] (fun i wr => ∃ q : Nat, q ≤ l.length ∧ i = .int .i64 q ∧ l.take q = m.take q ∧ Below w.heap.size w wr) (fun i _ => l.length - (intOf i).toNat)
    case atStart => exact ⟨0, Nat.zero_le _, rfl, rfl, Below.refl _ _⟩
    case round =>
      obtain ⟨q, hq, rfl, hno, hb⟩ := hrel
      have HNO := Lib.hid hno
      have HBW := Lib.hid hb
      by_cases hlt : q < l.length
      · obtain ⟨s, hs⟩ := at_lt hlt
        obtain ⟨t, ht⟩ := at_lt (l := m) (k := q) (by have := HLM.out; omega)
        obtain ⟨g, o, rfl, hg, c0, c1⟩ := HA.out.at hs
        obtain ⟨g', o', rfl, hg', d0, d1⟩ := HB.out.at ht
        replace c0 := cell_in hb hg c0
        replace c1 := cell_in hb hg c1
        replace d0 := cell_in hb hg' d0
        replace d1 := cell_in hb hg' d1
        have hgw := Nat.lt_of_lt_of_le hg hb.size
        have hgw' := Nat.lt_of_lt_of_le hg' hb.size
        have hqm : (q : Int) < (m.length : Int) := by have := HLM.out; omega
        have hq0 : (0 : Int) ≤ (q : Int) := by omega
        have hql : (q : Int) < (l.length : Int) := by omega
        have HS := Lib.hid hs
        have HT := Lib.hid ht
        clear hs ht hno hb
        cases e1 : (s.1.toList == t.1.toList) <;> cases e2 : (s.2.toList == t.2.toList)
        · have HF : Hid (sameB l m = false) := diff_at HS.out HT.out (by rintro rfl; simp at e1)
          go_wp2
          go_quiet (fail)
          go_wp2
          go_ret
          exact ⟨ret_bool (HF.out.symm.trans HV.out), HBW.out.trans ⟨rfl, rfl, rfl, Nat.le_refl _, fun _ _ => rfl⟩⟩
        · have HF : Hid (sameB l m = false) := diff_at HS.out HT.out (by rintro rfl; simp at e1)
          go_wp2
          go_quiet (fail)
          go_wp2
          go_ret
          exact ⟨ret_bool (HF.out.symm.trans HV.out), HBW.out.trans ⟨rfl, rfl, rfl, Nat.le_refl _, fun _ _ => rfl⟩⟩
        · have HF : Hid (sameB l m = false) := diff_at HS.out HT.out (by rintro rfl; simp at e2)
          go_wp2
          go_quiet (fail)
          go_wp2
          go_ret
          exact ⟨ret_bool (HF.out.symm.trans HV.out), HBW.out.trans ⟨rfl, rfl, rfl, Nat.le_refl _, fun _ _ => rfl⟩⟩
        · have HE : Hid (s = t) := Prod.ext (text_ext (by simpa using e1)) (text_ext (by simpa using e2))
          go_wp2
          go_quiet (fail)
          go_wp2
          go_roundw
          case rel => exact ⟨q + 1, hlt, by go_num, by rw [List.take_add_one, List.take_add_one, HS.out, HT.out, HNO.out, HE.out], HBW.out.trans ⟨rfl, rfl, rfl, Nat.le_refl _, fun _ _ => rfl⟩⟩
          case measure => simp [intOf]; omega
      · obtain rfl : q = l.length := by omega
        have HF : Hid (sameB l m = true) := by
          have h := HNO.out
          rw [List.take_length, HLM.out, List.take_length] at h
          show sameB l m = true
          simp [sameB, h]
        clear hno hb
        go_wp2
        go_ret
        exact ⟨ret_bool (HF.out.symm.trans HV.out), HBW.out⟩
  · have hlmB : ((l.length : Int) == (m.length : Int)) = false := by simp; omega
    have hlmB2 : ((l.length : Int) != (m.length : Int)) = true := by simp; omega
    have HF : Hid (sameB l m = false) := by
      show sameB l m = false
      simp only [sameB, decide_eq_false_iff_not]
      rintro rfl
      exact hlm rfl
    clear hlm
    go_enter Try.func24, Try.ntmps24
    go_wp2
    go_ret
    exact ⟨ret_bool (HF.out.symm.trans HV.out), Below.refl _ _⟩

end Go.Proofs.Ytkgfpppbpjinaaa
