/- Whether numbers are rising nodes, whether spans lie one behind the other. Conditions: lists of at most a million. -/
import Derived.Test.YtkgfpppbpjinaaaTb
set_option linter.unusedVariables false
namespace Go.Proofs.Ytkgfpppbpjinaaa
open Go.RowKit

theorem ris_drop {l : List Int} {k : Nat} {n : Int} (h : l[k]? = some n) (p : Int) : risF p (l.drop k) = (nodeB n && (decide (p < n) && risF n (l.drop (k + 1)))) := by
  obtain ⟨h1, rfl⟩ := List.getElem?_eq_some_iff.1 h
  rw [List.drop_eq_getElem_cons h1]
  rfl
/-- Of l the first k are rising nodes, the last of which is p. -/
def RisAt (l : List Int) (k : Nat) (p : Int) : Prop := (k = 0 → p = 0) ∧ (∀ j, k = j + 1 → l[j]? = some p) ∧ risF 0 l = risF p (l.drop k)
theorem risAt_zero (l : List Int) : RisAt l 0 0 := ⟨fun _ => rfl, fun j h => (by cases h), rfl⟩
theorem risAt_next {l : List Int} {k : Nat} {p n : Int} (h : RisAt l k p) (hn : l[k]? = some n) (h1 : nodeB n = true) (h2 : p < n) : RisAt l (k + 1) n := by
  refine ⟨fun h => (by cases h), fun j hj => by cases hj; exact hn, ?_⟩
  rw [h.2.2, ris_drop hn, h1]
  simp [h2]
theorem risAt_bad {l : List Int} {k : Nat} {p n : Int} (h : RisAt l k p) (hn : l[k]? = some n) (h1 : nodeB n = false ∨ n ≤ p) : risF 0 l = false := by
  rw [h.2.2, ris_drop hn]
  rcases h1 with h1 | h1
  · rw [h1]; rfl
  · have : ¬ p < n := by omega
    simp [this]
theorem risAt_end {l : List Int} {k : Nat} {p : Int} (h : RisAt l k p) (hk : l.length ≤ k) : risF 0 l = true := by
  rw [h.2.2, List.drop_eq_nil_of_le hk]
  rfl

set_option maxRecDepth 100000 in
set_option maxHeartbeats 1000000 in
theorem areRising_any (a : Option Addr) (c : Nat) (l : List Int) (w : World) (hlen : l.length ≤ 1000000) (ha : Il w a c l) :
    Calls Try.prog 33 #[.slice a l.length c] w fun e w' => e = .returned (.bool (risF 0 l)) ∧ w = w' := by
  have HA := Lib.hid ha
  clear ha
  generalize hv : risF 0 l = v
  have HV := Lib.hid hv
  clear hv
  go_enter Try.func33, Try.ntmps33
  go_wp2
  go_loopw [7] (fun i wr => ∃ (k : Nat) (p : Int), k ≤ l.length ∧ i = .int .i64 k ∧ RisAt l k p ∧ w = wr) (fun i _ => l.length - (intOf i).toNat)
  case atStart => exact ⟨0, 0, Nat.zero_le _, rfl, risAt_zero l, rfl⟩
  case round =>
    obtain ⟨k, p, hk, rfl, hr, rfl⟩ := hrel
    by_cases hlt : k < l.length
    · obtain ⟨n, hn⟩ := at_lt hlt
      obtain ⟨g, o, rfl, hg, c0⟩ := HA.out.at hn
      have hk0 : (0 : Int) ≤ (k : Int) := by omega
      have hk1 : (k : Int) < (l.length : Int) := by omega
      have hdk : decide ((k : Int) < (l.length : Int)) = true := decide_eq_true hk1
      have HN := Lib.hid hn
      have HR := Lib.hid hr
      clear hn hr
      cases hb : nodeB n
      · have HF := Lib.hid (risAt_bad HR.out HN.out (.inl hb))
        have HBB := Lib.hid hb
        clear hb
        go_wp2_with (go_at_call 46; refine (isNode_any _ _).mono ?_; rintro r w' ⟨rfl, rfl⟩; rw [HBB.out])
        go_ret
        exact ⟨ret_bool (HF.out.symm.trans HV.out), rfl⟩
      · have HBB := Lib.hid hb
        clear hb
        cases k with
        | zero =>
          obtain rfl : p = 0 := HR.out.1 rfl
          rw [Nat.add_zero] at c0
          have HX := Lib.hid (risAt_next HR.out HN.out HBB.out (by have := nodeB_iff.1 HBB.out; omega))
          go_wp2_with (go_at_call 46; refine (isNode_any _ _).mono ?_; rintro r w' ⟨rfl, rfl⟩; rw [HBB.out])
          go_roundw
          case rel => exact ⟨1, n, hlt, by go_num, HX.out, by trivial⟩
          case measure => simp [intOf]; omega
        | succ j =>
          have hj := HR.out.2.1 j rfl
          obtain ⟨g', o', he, hg', c1⟩ := HA.out.at hj
          simp only [Option.some.injEq, Addr.mk.injEq, and_true] at he
          obtain ⟨rfl, rfl⟩ := he
          have hj0 : (0 : Int) ≤ (j : Int) := by omega
          have hj1 : (j : Int) < (l.length : Int) := by omega
          have hpos : decide ((0 : Int) < (j : Int) + 1) = true := decide_eq_true (by omega)
          clear hj
          by_cases hnp : n ≤ p
          · have HF := Lib.hid (risAt_bad HR.out HN.out (.inr hnp))
            have hdn : decide (n ≤ p) = true := decide_eq_true hnp
            clear hnp
            go_wp2_with (go_at_call 46; refine (isNode_any _ _).mono ?_; rintro r w' ⟨rfl, rfl⟩; rw [HBB.out])
            go_ret
            exact ⟨ret_bool (HF.out.symm.trans HV.out), rfl⟩
          · have HX := Lib.hid (risAt_next HR.out HN.out HBB.out (by omega))
            have hdn : decide (n ≤ p) = false := decide_eq_false hnp
            clear hnp
            go_wp2_with (go_at_call 46; refine (isNode_any _ _).mono ?_; rintro r w' ⟨rfl, rfl⟩; rw [HBB.out])
            go_roundw
            case rel => exact ⟨j + 1 + 1, n, hlt, by go_num, HX.out, by trivial⟩
            case measure => simp [intOf]; omega
    · have HF := Lib.hid (risAt_end hr (by omega))
      have hdk : decide ((k : Int) < (l.length : Int)) = false := decide_eq_false (by omega)
      clear hr
      go_wp2
      go_ret
      exact ⟨ret_bool (HF.out.symm.trans HV.out), rfl⟩

end Go.Proofs.Ytkgfpppbpjinaaa
