/- The reference's Nodes; small. Conditions: lists of at most a million. -/
import Derived.Test.YtopogdfmbdbimaaTj
set_option linter.unusedVariables false
namespace Go.Proofs.Ytopogdfmbdbimaa
open Go.RowKit

theorem nodesTo_one (f : Int → Bool) : nodesTo f 1 = [] := by
  unfold nodesTo
  rw [ofTo_succ, ofTo_zero]
  rfl
theorem nodesTo_succ (f : Int → Bool) {k : Nat} (h1 : 1 ≤ k) (h2 : k ≤ 7) : nodesTo f (k + 1) = nodesTo f k ++ if f k = true then [(k : Int)] else [] := by
  unfold nodesTo
  rw [ofTo_succ]
  have : nodeB (k : Int) = true := nodeB_iff.2 ⟨by omega, by omega⟩
  rw [this, Bool.true_and]
theorem nodesTo_len (f : Int → Bool) (k : Nat) : (nodesTo f k).length ≤ k := ofTo_len _ _
theorem any_all {l : List Sh} {P : List Int} {q : Nat} {n : Int} (h : P.length ≤ q) : anyHas l (P.take q) n = anyHas l P n := by rw [List.take_of_length_le h]

set_option maxRecDepth 100000 in
set_option maxHeartbeats 4000000 in
theorem refnodes_any (a : Option Addr) (c : Nat) (l : List Sh) (ap : Option Addr) (cp : Nat) (P : List Int) (w : World) (hlen : l.length ≤ 1000000) (hlp : P.length ≤ 1000000) (hn5 : ∀ s ∈ l, s.nodes.length ≤ 1000000) (ha : Hl w a l) (hp : Il w ap cp P) :
    Calls Try.prog 28 #[.slice a l.length c, .slice ap P.length cp] w (RetI w (nodesL l P)) := by
  have HA := Lib.hid ha
  have HP := Lib.hid hp
  have HN5 := Lib.hid hn5
  clear ha hp hn5
  go_enter Try.func28, Try.ntmps28
  go_wp2
  go_loopw [5, 6] (fun v i wr => ∃ k : Nat, 1 ≤ k ∧ k ≤ 8 ∧ i = .int .i64 k ∧ OwnI wr w.heap.size v (nodesTo (anyHas l P) k) ∧ Below w.heap.size w wr) (fun _ i _ => 8 - (intOf i).toNat)
  case atStart => exact ⟨1, Nat.le_refl _, by decide, rfl, by rw [nodesTo_one]; exact OwnI.nil _ _, Below.refl _ _⟩
  case round =>
    obtain ⟨k, hk1, hk8, rfl, ho, hb⟩ := hrel
    obtain ⟨av, cv, rfl⟩ := ho.form
    have HO := Lib.hid ho
    have HB := Lib.hid hb
    clear ho hb
    by_cases hlt : k ≤ 7
    · have hdk : decide ((k : Int) ≤ 7) = true := decide_eq_true (by omega)
      have HLK := Lib.hid (nodesTo_len (anyHas l P) k)
      go_wp2
      go_loopw [7, 8] (fun b j wr2 => ∃ q : Nat, q ≤ P.length ∧ j = .int .i64 q ∧ b = .bool (anyHas l (P.take q) k) ∧ wr = wr2) (fun _ j _ => P.length - (intOf j).toNat)
      case atStart => exact ⟨0, Nat.zero_le _, rfl, rfl, rfl⟩
      case round =>
        obtain ⟨q, hq, rfl, rfl, rfl⟩ := hrel
        by_cases hlt2 : q < P.length
        · obtain ⟨i, hi⟩ := at_lt hlt2
          have HT := Lib.hid (anyHas_take (l := l) hi (k : Int))
          have hdq : decide ((q : Int) < (P.length : Int)) = true := decide_eq_true (by omega)
          cases hany : anyHas l (P.take q) (k : Int)
          · have HANY := Lib.hid hany
            obtain ⟨gp, op, rfl, hgp, d0⟩ := HP.out.at hi
            have c0 := cell_in HB.out hgp d0
            have hgw := Nat.lt_of_lt_of_le hgp HB.out.size
            have hq0 : (0 : Int) ≤ (q : Int) := by omega
            have hq1 : (q : Int) < (P.length : Int) := by omega
            clear hi hany d0
            by_cases hi0 : 0 ≤ i
            · obtain ⟨p, rfl⟩ := Int.eq_ofNat_of_zero_le hi0
              have hd0 : decide ((0 : Int) ≤ (p : Int)) = true := decide_eq_true hi0
              by_cases hil : p < l.length
              · obtain ⟨s, hs⟩ := at_lt hil
                obtain ⟨g, o, rfl, hg, e0, e1, e2⟩ := HA.out.at hs
                have f2 := cell_in HB.out hg e2
                have hgw2 := Nat.lt_of_lt_of_le hg HB.out.size
                have hp0 : (0 : Int) ≤ (p : Int) := by omega
                have hp1 : (p : Int) < (l.length : Int) := by omega
                have hdp : decide ((p : Int) < (l.length : Int)) = true := decide_eq_true hp1
                have HL5 := Lib.hid (HN5.out s (List.mem_of_getElem? hs))
                have HIL := Lib.hid ((HA.out.1 s (List.mem_of_getElem? hs)).later HB.out)
                have HX : Hid (anyHas l (P.take (q + 1)) (k : Int) = hasN s.nodes (k : Int)) := by show _ = _; rw [HT.out, HANY.out, atHas_at hs, Bool.false_or]
                clear hs e0 e1 e2
                generalize hh : hasN s.nodes (k : Int) = b at *
                have HH := Lib.hid hh
                clear hh
                cases b
                all_goals
                  go_wp2_with (go_at_call 25; refine (refin_i _ _ s.nodes (k : Int) _ HL5.out HIL.out).mono ?_; rintro r w2 ⟨rfl, rfl⟩; rw [HH.out])
                  go_roundw
                  case rel => exact ⟨q + 1, hlt2, by go_num, by rw [HX.out], by trivial⟩
                  case measure => simp [intOf]; omega
              · have hdp : decide ((p : Int) < (l.length : Int)) = false := decide_eq_false (by omega)
                have HX : Hid (anyHas l (P.take (q + 1)) (k : Int) = false) := by show _ = _; rw [HT.out, HANY.out, atHas_out (by omega)]; rfl
                go_wp2
                go_roundw
                case rel => exact ⟨q + 1, hlt2, by go_num, by rw [HX.out], by trivial⟩
                case measure => simp [intOf]; omega
            · have hd0 : decide ((0 : Int) ≤ i) = false := decide_eq_false hi0
              have HX : Hid (anyHas l (P.take (q + 1)) (k : Int) = false) := by show _ = _; rw [HT.out, HANY.out, atHas_neg (by omega)]; rfl
              go_wp2
              go_roundw
              case rel => exact ⟨q + 1, hlt2, by go_num, by rw [HX.out], by trivial⟩
              case measure => simp [intOf]; omega
          · have HX : Hid (anyHas l (P.take (q + 1)) (k : Int) = true) := by show _ = _; rw [HT.out, hany]; rfl
            clear hi hany
            go_wp2
            go_roundw
            case rel => exact ⟨q + 1, hlt2, by go_num, by rw [HX.out], by trivial⟩
            case measure => simp [intOf]; omega
        · have hdq : decide ((q : Int) < (P.length : Int)) = false := decide_eq_false (by omega)
          have HAL := Lib.hid (any_all (l := l) (P := P) (q := q) (n := (k : Int)) (by omega))
          have HSU := Lib.hid (nodesTo_succ (anyHas l P) hk1 hlt)
          rw [HAL.out]
          generalize hh : anyHas l P (k : Int) = b at *
          have HH := Lib.hid hh
          clear hh
          cases b
          · go_wp2
            go_roundw
            case rel => exact ⟨k + 1, by omega, by omega, by go_num, by rw [HSU.out]; simp only [Bool.false_eq_true, if_false, List.append_nil]; exact HO.out, HB.out⟩
            case measure => simp [intOf]; omega
          · go_wp2_with (at_builtin; refine append_i rfl _ _ rfl w.heap.size _ (nodesTo (anyHas l P) k) rfl (HO.out.later (blAlloc (Below.refl _ _) _)) _ _ _ [(k : Int)] rfl rfl (one_newI _ _ _ rfl) (by have := HLK.out; simp; omega) (by have := HB.out.size; simp; omega) ?_; intro v1 w3 h1 h2; have H1 := Lib.hid h1; have H2 := Lib.hid (grown_belowI (blAlloc HB.out _) (HO.out.later (blAlloc (Below.refl _ _) _)) (Nat.le_refl _) (by have := HB.out.size; simp; omega) h2); clear h1 h2)
            go_roundw
            case rel => exact ⟨k + 1, by omega, by omega, by go_num, by rw [HSU.out]; exact H1.out, H2.out⟩
            case measure => simp [intOf]; omega
    · obtain rfl : k = 8 := by omega
      go_wp2
      go_ret
      exact ⟨_, rfl, HO.out, HB.out⟩

end Go.Proofs.Ytopogdfmbdbimaa
