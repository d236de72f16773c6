/- Whether a topology may be asked about (right). Conditions: none. -/
import Derived.Test.YtopogdfmbdbimaaVf
import Derived.Test.YtopogdfmbdbimaaTg
set_option linter.unusedVariables false
namespace Go.Proofs.Ytopogdfmbdbimaa
open Go.RowKit

/-- It returns whether the topology may be: true of such alone. -/
def RetRight (w : World) (l : List Sh) (e : Ending) (w' : World) : Prop := ∃ b : Bool, e = .returned (.bool b) ∧ (b = true → topoB l = true) ∧ Below w.heap.size w w'
set_option maxRecDepth 100000 in
set_option maxHeartbeats 4000000 in
theorem tright_any (a : Option Addr) (c : Nat) (l : List Sh) (w : World) (ha : Hl w a l) (hlen : l.length ≤ 9223372036854775807) : Calls Try.prog 9 #[.slice a l.length c] w (RetRight w l) := by
  have HA := Lib.hid ha
  clear ha
  go_enter Try.func9, Try.ntmps9
  go_wp2
  go_loopw [3, 4] (fun n i wr => ∃ (x : Int) (k : Nat), n = .int .i64 x ∧ k ≤ l.length ∧ k ≤ 41 ∧ i = .int .i64 k ∧ Below w.heap.size w wr) (fun _ i _ => 41 - (intOf i).toNat)
  case atStart => exact ⟨_, 0, rfl, Nat.zero_le _, Nat.zero_le _, rfl, Below.refl _ _⟩
  case round =>
    obtain ⟨x, k, rfl, hk, hk9, rfl, hb⟩ := hrel
    have HB := Lib.hid hb
    by_cases hgo : k < l.length ∧ k ≤ 40
    · obtain ⟨hlt, h30⟩ := hgo
      obtain ⟨s, hs⟩ := at_lt hlt
      obtain ⟨g, o, rfl, hg, c0, c1, c2⟩ := HA.out.at hs
      replace c0 := cell_in hb hg c0
      replace c1 := cell_in hb hg c1
      replace c2 := cell_in hb hg c2
      have hgw := Nat.lt_of_lt_of_le hg hb.size
      have hk0 : (0 : Int) ≤ (k : Int) := by omega
      have hk1 : (k : Int) < (l.length : Int) := by omega
      have hk2 : (k : Int) ≤ 40 := by omega
      have hd1 : decide ((k : Int) < (l.length : Int)) = true := decide_eq_true hk1
      have hd2 : decide ((k : Int) ≤ 40) = true := decide_eq_true hk2
      clear hs hb
      go_wp2
      go_quiet (fail)
      go_wp2
      go_roundw
      case rel => exact ⟨_, k + 1, rfl, hlt, by omega, by go_num, HB.out.trans ⟨rfl, rfl, rfl, Nat.le_refl _, fun _ _ => rfl⟩⟩
      case measure => simp [intOf]; omega
    · have hgob : Hid (((k : Int) < (l.length : Int) ∧ ¬ (k : Int) ≤ 40) ∨ ¬ (k : Int) < (l.length : Int)) := by
        by_cases h1 : k < l.length
        · exact .inl ⟨by omega, by omega⟩
        · exact .inr (by omega)
      clear hb hgo
      rcases hgob.out with ⟨hk1, hk2⟩ | hk1
      · have hd1 : decide ((k : Int) < (l.length : Int)) = true := decide_eq_true hk1
        have hd2 : decide ((k : Int) ≤ 40) = false := decide_eq_false hk2
        have hd5 : decide ((l.length : Int) ≤ 40) = false := decide_eq_false (by omega)
        go_wp2
        go_ret
        exact ⟨false, rfl, (fun h => by cases h), HB.out⟩
      · have hd1 : decide ((k : Int) < (l.length : Int)) = false := decide_eq_false hk1
        by_cases hl : (l.length : Int) ≤ 40
        · have hd5 : decide ((l.length : Int) ≤ 40) = true := decide_eq_true hl
          by_cases hx : x ≤ 2000
          · have hd7 : decide (x ≤ 2000) = true := decide_eq_true hx
            cases htb : topoB l
            · have HTB := Lib.hid htb
              clear htb
              go_wp2_with (go_at_call 29; refine (rtcheck_any _ _ l _ (HA.out.later HB.out)).mono ?_; rintro e w3 ⟨rfl, hb3⟩; rw [HTB.out]; have HB3 := Lib.hid (HB.out.trans (hb3.mono HB.out.size)); clear hb3)
              go_ret
              exact ⟨false, rfl, (fun h => by cases h), HB3.out⟩
            · have HTB := Lib.hid htb
              clear htb
              go_wp2_with (go_at_call 29; refine (rtcheck_any _ _ l _ (HA.out.later HB.out)).mono ?_; rintro e w3 ⟨rfl, hb3⟩; rw [HTB.out]; have HB3 := Lib.hid (HB.out.trans (hb3.mono HB.out.size)); clear hb3)
              go_ret
              exact ⟨true, rfl, fun _ => HTB.out, HB3.out⟩
          · have hd7 : decide (x ≤ 2000) = false := decide_eq_false hx
            go_wp2
            go_ret
            exact ⟨false, rfl, (fun h => by cases h), HB.out⟩
        · have hd5 : decide ((l.length : Int) ≤ 40) = false := decide_eq_false hl
          go_wp2
          go_ret
          exact ⟨false, rfl, (fun h => by cases h), HB.out⟩

end Go.Proofs.Ytopogdfmbdbimaa
