/- small, num; the shard of a text, by the program and by the reference. Conditions: as each theorem states. -/
import Derived.Test.YtkgfpppbpjinaaaTk
import Derived.Test.YtkgfpppbpjinaaaKt
set_option linter.unusedVariables false
namespace Go.Proofs.Ytkgfpppbpjinaaa
open Go.RowKit

theorem tnum_any (n : Int) (w : World) : Calls Try.prog 11 #[.int .i64 n] w fun e w' => e = .returned (.int .i64 n) ∧ w = w' := by
  go_enter Try.func11, Try.ntmps11
  go_wp2
  go_ret
  exact ⟨rfl, rfl⟩

/-- It returns whether topology and set are small: true of lists of at most 30 alone. -/
def RetSmallT (w : World) (l : List Sh) (m : List Sp) (e : Ending) (w' : World) : Prop := ∃ b : Bool, e = .returned (.bool b) ∧ (b = true → l.length ≤ 30 ∧ m.length ≤ 30) ∧ Below w.heap.size w w'
set_option maxRecDepth 100000 in
set_option maxHeartbeats 4000000 in
theorem tsmall_any (a : Option Addr) (c : Nat) (l : List Sh) (va : Value) (m : List Sp) (w : World) (ha : Hl w a l) (hm : Sl w va m) (hlen : l.length ≤ 9223372036854775807) (hlm : m.length ≤ 9223372036854775807) : Calls Try.prog 9 #[.slice a l.length c, va] w (RetSmallT w l m) := by
  obtain ⟨aa, ca, rfl⟩ := hm.form
  have HA := Lib.hid ha
  have HM := Lib.hid hm
  clear ha hm
  go_enter Try.func9, Try.ntmps9
  go_wp2
  go_loopw [5, 6] (fun n i wr => ∃ (x : Int) (k : Nat), n = .int .i64 x ∧ k ≤ l.length ∧ k ≤ 31 ∧ i = .int .i64 k ∧ Below w.heap.size w wr) (fun _ i _ => 31 - (intOf i).toNat)
  case atStart => exact ⟨_, 0, rfl, Nat.zero_le _, Nat.zero_le _, rfl, Below.refl _ _⟩
  case round =>
    obtain ⟨x, k, rfl, hk, hk9, rfl, hb⟩ := hrel
    have HB := Lib.hid hb
    by_cases hgo : k < l.length ∧ k ≤ 30
    · obtain ⟨hlt, h30⟩ := hgo
      obtain ⟨s, hs⟩ := at_lt hlt
      obtain ⟨g, o, rfl, hg, c0, c1, c2⟩ := HA.out.at hs
      replace c0 := cell_in hb hg c0
      replace c1 := cell_in hb hg c1
      replace c2 := cell_in hb hg c2
      have hgw := Nat.lt_of_lt_of_le hg hb.size
      have hk0 : (0 : Int) ≤ (k : Int) := by omega
      have hk1 : (k : Int) < (l.length : Int) := by omega
      have hk2 : (k : Int) ≤ 30 := by omega
      have hd1 : decide ((k : Int) < (l.length : Int)) = true := decide_eq_true hk1
      have hd2 : decide ((k : Int) ≤ 30) = true := decide_eq_true hk2
      clear hs hb
      go_wp2
      go_quiet (fail)
      go_wp2
      go_roundw
      case rel => exact ⟨_, k + 1, rfl, hlt, by omega, by go_num, HB.out.trans ⟨rfl, rfl, rfl, Nat.le_refl _, fun _ _ => rfl⟩⟩
      case measure => simp [intOf]; omega
    · have hout : Hid (k < l.length → ¬ l.length ≤ 30) := fun h1 h2 => hgo ⟨h1, by omega⟩
      have hgob : Hid (((k : Int) < (l.length : Int) ∧ ¬ (k : Int) ≤ 30) ∨ ¬ (k : Int) < (l.length : Int)) := by
        by_cases h1 : k < l.length
        · exact .inl ⟨by omega, by omega⟩
        · exact .inr (by omega)
      clear hb hgo
      rcases hgob.out with ⟨hk1, hk2⟩ | hk1
      · have hd1 : decide ((k : Int) < (l.length : Int)) = true := decide_eq_true hk1
        have hd2 : decide ((k : Int) ≤ 30) = false := decide_eq_false hk2
        have hl : ¬ (l.length : Int) ≤ 30 := by omega
        go_wp2
        go_loopw [5, 7] (fun n i wr2 => ∃ (x : Int) (k : Nat), n = .int .i64 x ∧ k ≤ m.length ∧ k ≤ 31 ∧ i = .int .i64 k ∧ Below w.heap.size w wr2) (fun _ i _ => 31 - (intOf i).toNat)
        case atStart => exact ⟨_, 0, rfl, Nat.zero_le _, Nat.zero_le _, rfl, HB.out⟩
        case round =>
          rename_i wr2
          obtain ⟨x2, k2, rfl, hk22, hk29, rfl, hb2⟩ := hrel
          have HB2 := Lib.hid hb2
          by_cases hgo2 : k2 < m.length ∧ k2 ≤ 30
          · obtain ⟨hlt, h30⟩ := hgo2
            obtain ⟨s, hs⟩ := at_lt hlt
            obtain ⟨g, o, rfl, hg, c0, c1⟩ := HM.out.at hs
            replace c0 := cell_in hb2 hg c0
            replace c1 := cell_in hb2 hg c1
            have hgw := Nat.lt_of_lt_of_le hg hb2.size
            have hq0 : (0 : Int) ≤ (k2 : Int) := by omega
            have hq1 : (k2 : Int) < (m.length : Int) := by omega
            have hq3 : (k2 : Int) ≤ 30 := by omega
            have hd3 : decide ((k2 : Int) < (m.length : Int)) = true := decide_eq_true hq1
            have hd4 : decide ((k2 : Int) ≤ 30) = true := decide_eq_true hq3
            clear hs hb2
            go_wp2
            go_quiet (fail)
            go_wp2
            go_roundw
            case rel => exact ⟨_, k2 + 1, rfl, hlt, by omega, by go_num, HB2.out.trans ⟨rfl, rfl, rfl, Nat.le_refl _, fun _ _ => rfl⟩⟩
            case measure => simp [intOf]; omega
          · have hgob2 : Hid (((k2 : Int) < (m.length : Int) ∧ ¬ (k2 : Int) ≤ 30) ∨ ¬ (k2 : Int) < (m.length : Int)) := by
              by_cases h1 : k2 < m.length
              · exact .inl ⟨by omega, by omega⟩
              · exact .inr (by omega)
            clear hb2 hgo2
            rcases hgob2.out with ⟨hq1, hq2⟩ | hq1
            · have hd3 : decide ((k2 : Int) < (m.length : Int)) = true := decide_eq_true hq1
              have hd4 : decide ((k2 : Int) ≤ 30) = false := decide_eq_false hq2
              have hm : ¬ (m.length : Int) ≤ 30 := by omega
              have hd5 : decide ((l.length : Int) ≤ 30) = false := decide_eq_false (by omega)
              go_wp2
              go_ret
              exact ⟨false, rfl, (fun h => by cases h), HB2.out⟩
            · have hd3 : decide ((k2 : Int) < (m.length : Int)) = false := decide_eq_false hq1
              have hd5 : decide ((l.length : Int) ≤ 30) = false := decide_eq_false (by omega)
              go_wp2
              go_ret
              exact ⟨false, rfl, (fun h => by cases h), HB2.out⟩
      · have hd1 : decide ((k : Int) < (l.length : Int)) = false := decide_eq_false hk1
        go_wp2
        go_loopw [5, 7] (fun n i wr2 => ∃ (x : Int) (k : Nat), n = .int .i64 x ∧ k ≤ m.length ∧ k ≤ 31 ∧ i = .int .i64 k ∧ Below w.heap.size w wr2) (fun _ i _ => 31 - (intOf i).toNat)
        case atStart => exact ⟨_, 0, rfl, Nat.zero_le _, Nat.zero_le _, rfl, HB.out⟩
        case round =>
          rename_i wr2
          obtain ⟨x2, k2, rfl, hk22, hk29, rfl, hb2⟩ := hrel
          have HB2 := Lib.hid hb2
          by_cases hgo2 : k2 < m.length ∧ k2 ≤ 30
          · obtain ⟨hlt, h30⟩ := hgo2
            obtain ⟨s, hs⟩ := at_lt hlt
            obtain ⟨g, o, rfl, hg, c0, c1⟩ := HM.out.at hs
            replace c0 := cell_in hb2 hg c0
            replace c1 := cell_in hb2 hg c1
            have hgw := Nat.lt_of_lt_of_le hg hb2.size
            have hq0 : (0 : Int) ≤ (k2 : Int) := by omega
            have hq1 : (k2 : Int) < (m.length : Int) := by omega
            have hq3 : (k2 : Int) ≤ 30 := by omega
            have hd3 : decide ((k2 : Int) < (m.length : Int)) = true := decide_eq_true hq1
            have hd4 : decide ((k2 : Int) ≤ 30) = true := decide_eq_true hq3
            clear hs hb2
            go_wp2
            go_quiet (fail)
            go_wp2
            go_roundw
            case rel => exact ⟨_, k2 + 1, rfl, hlt, by omega, by go_num, HB2.out.trans ⟨rfl, rfl, rfl, Nat.le_refl _, fun _ _ => rfl⟩⟩
            case measure => simp [intOf]; omega
          · have hgob2 : Hid (((k2 : Int) < (m.length : Int) ∧ ¬ (k2 : Int) ≤ 30) ∨ ¬ (k2 : Int) < (m.length : Int)) := by
              by_cases h1 : k2 < m.length
              · exact .inl ⟨by omega, by omega⟩
              · exact .inr (by omega)
            clear hb2 hgo2
            rcases hgob2.out with ⟨hq1, hq2⟩ | hq1
            · have hd3 : decide ((k2 : Int) < (m.length : Int)) = true := decide_eq_true hq1
              have hd4 : decide ((k2 : Int) ≤ 30) = false := decide_eq_false hq2
              have hm : ¬ (m.length : Int) ≤ 30 := by omega
              by_cases hl : (l.length : Int) ≤ 30
              · have hd5 : decide ((l.length : Int) ≤ 30) = true := decide_eq_true hl
                have hd6 : decide ((m.length : Int) ≤ 30) = false := decide_eq_false hm
                go_wp2
                go_ret
                exact ⟨false, rfl, (fun h => by cases h), HB2.out⟩
              · have hd5 : decide ((l.length : Int) ≤ 30) = false := decide_eq_false (by omega)
                go_wp2
                go_ret
                exact ⟨false, rfl, (fun h => by cases h), HB2.out⟩
            · have hd3 : decide ((k2 : Int) < (m.length : Int)) = false := decide_eq_false hq1
              by_cases hl : (l.length : Int) ≤ 30
              · have hd5 : decide ((l.length : Int) ≤ 30) = true := decide_eq_true hl
                by_cases hm : (m.length : Int) ≤ 30
                · have hd6 : decide ((m.length : Int) ≤ 30) = true := decide_eq_true hm
                  by_cases hx : x2 ≤ 4000
                  · have hd7 : decide (x2 ≤ 4000) = true := decide_eq_true hx
                    go_wp2
                    go_ret
                    exact ⟨true, rfl, fun _ => ⟨by omega, by omega⟩, HB2.out⟩
                  · have hd7 : decide (x2 ≤ 4000) = false := decide_eq_false hx
                    go_wp2
                    go_ret
                    exact ⟨false, rfl, (fun h => by cases h), HB2.out⟩
                · have hd6 : decide ((m.length : Int) ≤ 30) = false := decide_eq_false hm
                  go_wp2
                  go_ret
                  exact ⟨false, rfl, (fun h => by cases h), HB2.out⟩
              · have hd5 : decide ((l.length : Int) ≤ 30) = false := decide_eq_false (by omega)
                go_wp2
                go_ret
                exact ⟨false, rfl, (fun h => by cases h), HB2.out⟩

end Go.Proofs.Ytkgfpppbpjinaaa
