/- The reference's In, Ints, Check. Conditions: lists of at most a million. -/
import Derived.Test.YtopogdfmbdbimaaTe
set_option linter.unusedVariables false
namespace Go.Proofs.Ytopogdfmbdbimaa
open Go.RowKit

theorem has_take {l : List Int} {k : Nat} {x n : Int} (hs : l[k]? = some x) (h : hasN (l.take k) n = false) (hn : (x == n) = false) : hasN (l.take (k + 1)) n = false := by
  unfold hasN at *
  rw [List.take_add_one, hs, List.any_append, h]
  simpa using hn
theorem has_found {l : List Int} {k : Nat} {x n : Int} (hs : l[k]? = some x) (hn : (x == n) = true) : hasN l n = true :=
  List.any_eq_true.2 ⟨x, List.mem_of_getElem? hs, hn⟩

set_option maxHeartbeats 1000000 in
theorem refin_i (a : Option Addr) (c : Nat) (l : List Int) (n : Int) (w : World) (hlen : l.length ≤ 1000000) (ha : Il w a c l) :
    Calls Try.prog 25 #[.slice a l.length c, .int .i64 n] w fun e w' => e = .returned (.bool (hasN l n)) ∧ w = w' := by
  have HA := Lib.hid ha
  clear ha
  generalize hv : hasN l n = v
  have HV := Lib.hid hv
  clear hv
  go_enter Try.func25, Try.ntmps25
  go_wp2
  go_loopw [5] (fun i wr => ∃ k : Nat, k ≤ l.length ∧ i = .int .i64 k ∧ hasN (l.take k) n = false ∧ w = wr) (fun i _ => l.length - (intOf i).toNat)
  case atStart => exact ⟨0, Nat.zero_le _, rfl, rfl, rfl⟩
  case round =>
    obtain ⟨k, hk, rfl, hr, rfl⟩ := hrel
    by_cases hlt : k < l.length
    · obtain ⟨x, hx⟩ := at_lt hlt
      obtain ⟨g, o, rfl, hg, c0⟩ := HA.out.at hx
      have hk0 : (0 : Int) ≤ (k : Int) := by omega
      have hk1 : (k : Int) < (l.length : Int) := by omega
      have hdk : decide ((k : Int) < (l.length : Int)) = true := decide_eq_true hk1
      cases he : (x == n)
      · have HX := Lib.hid (has_take hx hr he)
        clear hx hr
        go_wp2
        go_roundw
        case rel => exact ⟨k + 1, hlt, by go_num, HX.out, by trivial⟩
        case measure => simp [intOf]; omega
      · have HF := Lib.hid (has_found hx he)
        clear hx hr
        go_wp2
        go_ret
        exact ⟨ret_bool (HF.out.symm.trans HV.out), rfl⟩
    · have HF : Hid (hasN l n = false) := by have h := hr; rwa [List.take_of_length_le (by omega)] at h
      have hdk : decide ((k : Int) < (l.length : Int)) = false := decide_eq_false (by omega)
      clear hr
      go_wp2
      go_ret
      exact ⟨ret_bool (HF.out.symm.trans HV.out), rfl⟩

/-- Two lists of numbers are the same. -/
def sameI (l m : List Int) : Bool := decide (l = m)
theorem diff_i {l m : List Int} {q : Nat} {s t : Int} (hs : l[q]? = some s) (ht : m[q]? = some t) (h : (s == t) = false) : sameI l m = false := by
  simp only [sameI, decide_eq_false_iff_not]
  rintro rfl
  rw [hs] at ht
  cases ht
  simp at h
set_option maxRecDepth 100000 in
set_option maxHeartbeats 1000000 in
theorem ints_any (aa ab : Option Addr) (ca cb : Nat) (l m : List Int) (w : World) (hl : l.length ≤ 1000000) (ha : Il w aa ca l) (hb : Il w ab cb m) :
    Calls Try.prog 19 #[.slice aa l.length ca, .slice ab m.length cb] w fun e w' => e = .returned (.bool (sameI l m)) ∧ Below w.heap.size w w' := by
  have HA := Lib.hid ha
  have HB := Lib.hid hb
  clear ha hb
  generalize hv : sameI l m = v
  have HV := Lib.hid hv
  clear hv
  by_cases hlm : l.length = m.length
  · have hlmB2 : ((l.length : Int) != (m.length : Int)) = false := by simp [hlm]
    have HLM := Lib.hid hlm
    clear hlm
    go_enter Try.func19, Try.ntmps19
    go_wp2
    go_loopw [5] (fun i wr => ∃ q : Nat, q ≤ l.length ∧ i = .int .i64 q ∧ l.take q = m.take q ∧ Below w.heap.size w wr) (fun i _ => l.length - (intOf i).toNat)
    case atStart => exact ⟨0, Nat.zero_le _, rfl, rfl, Below.refl _ _⟩
    case round =>
      obtain ⟨q, hq, rfl, hno, hb⟩ := hrel
      have HNO := Lib.hid hno
      have HBW := Lib.hid hb
      by_cases hlt : q < l.length
      · obtain ⟨s, hs⟩ := at_lt hlt
        obtain ⟨t, ht⟩ := at_lt (l := m) (k := q) (by have := HLM.out; omega)
        obtain ⟨g, o, rfl, hg, c0⟩ := HA.out.at hs
        obtain ⟨g', o', rfl, hg', d0⟩ := HB.out.at ht
        replace c0 := cell_in hb hg c0
        replace d0 := cell_in hb hg' d0
        have hgw := Nat.lt_of_lt_of_le hg hb.size
        have hgw' := Nat.lt_of_lt_of_le hg' hb.size
        have hqm : (q : Int) < (m.length : Int) := by have := HLM.out; omega
        have hq0 : (0 : Int) ≤ (q : Int) := by omega
        have hql : (q : Int) < (l.length : Int) := by omega
        have hdq : decide ((q : Int) < (l.length : Int)) = true := decide_eq_true hql
        have HS := Lib.hid hs
        have HT := Lib.hid ht
        clear hs ht hno hb
        cases e1 : (s == t)
        · have HF := Lib.hid (diff_i HS.out HT.out e1)
          have e2 : (s != t) = true := by simpa using e1
          go_wp2
          go_quiet (fail)
          go_wp2
          go_ret
          exact ⟨ret_bool (HF.out.symm.trans HV.out), HBW.out.trans ⟨rfl, rfl, rfl, Nat.le_refl _, fun _ _ => rfl⟩⟩
        · have HE : Hid (s = t) := by show s = t; simpa using e1
          have e2 : (s != t) = false := by simpa using e1
          go_wp2
          go_quiet (fail)
          go_wp2
          go_roundw
          case rel => exact ⟨q + 1, hlt, by go_num, by rw [List.take_add_one, List.take_add_one, HS.out, HT.out, HNO.out, HE.out], HBW.out.trans ⟨rfl, rfl, rfl, Nat.le_refl _, fun _ _ => rfl⟩⟩
          case measure => simp [intOf]; omega
      · obtain rfl : q = l.length := by omega
        have hdq : decide ((l.length : Int) < (l.length : Int)) = false := by simp
        have HF : Hid (sameI l m = true) := by
          have h := HNO.out
          rw [List.take_length, HLM.out, List.take_length] at h
          show sameI l m = true
          simp [sameI, h]
        clear hno hb
        go_wp2
        go_ret
        exact ⟨ret_bool (HF.out.symm.trans HV.out), HBW.out⟩
  · have hlmB2 : ((l.length : Int) != (m.length : Int)) = true := by simp; omega
    have HF : Hid (sameI l m = false) := by
      show sameI l m = false
      simp only [sameI, decide_eq_false_iff_not]
      rintro rfl
      exact hlm rfl
    clear hlm
    go_enter Try.func19, Try.ntmps19
    go_wp2
    go_ret
    exact ⟨ret_bool (HF.out.symm.trans HV.out), Below.refl _ _⟩

end Go.Proofs.Ytopogdfmbdbimaa
