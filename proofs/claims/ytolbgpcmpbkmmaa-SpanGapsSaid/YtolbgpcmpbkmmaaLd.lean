/- SpanGaps: a set's spans neither meet nor touch, none is empty, each begins and ends where one of the given does; whatever the spans, the law returns true and leaves its arguments as they were. Conditions: none. -/
import Derived.Test.YtolbgpcmpbkmmaaKw
set_option linter.unusedVariables false
set_option linter.unusedSimpArgs false
namespace Go.Proofs.Ytolbgpcmpbkmmaa
open Go.ChangeShapes Go.WideShapes Go.ChangeAt Go.RowKit Go.Joins Go.Deep

/-- Whether one of the first q begins, or ends, where s does. -/
def begB (l : List Sp) (s : Sp) (q : Nat) : Bool := (l.take q).any fun p => p.1.toList == s.1.toList
def endB (l : List Sp) (s : Sp) (q : Nat) : Bool := (l.take q).any fun p => p.2.toList == s.2.toList
theorem beg_step {l : List Sp} {s p : Sp} {q : Nat} (h : l[q]? = some p) : begB l s (q + 1) = (begB l s q || (p.1.toList == s.1.toList)) := by
  unfold begB
  rw [List.take_add_one, h]
  simp
theorem end_step {l : List Sp} {s p : Sp} {q : Nat} (h : l[q]? = some p) : endB l s (q + 1) = (endB l s q || (p.2.toList == s.2.toList)) := by
  unfold endB
  rw [List.take_add_one, h]
  simp
theorem beg_all {l : List Sp} {s : Sp} (h : ∃ p ∈ l, p.1 = s.1) : begB l s l.length = true := by
  obtain ⟨p, hp, e⟩ := h
  unfold begB
  rw [List.take_length]
  exact List.any_eq_true.2 ⟨p, hp, by simp [e]⟩
theorem end_all {l : List Sp} {s : Sp} (h : ∃ p ∈ l, p.2 = s.2) : endB l s l.length = true := by
  obtain ⟨p, hp, e⟩ := h
  unfold endB
  rw [List.take_length]
  exact List.any_eq_true.2 ⟨p, hp, by simp [e]⟩
theorem set_full {l : List Sp} (h : IsSet l) {k : Nat} {s : Sp} (hs : l[k]? = some s) : fullS s = true := h.1 s (List.mem_of_getElem? hs)
theorem full_lt {s : Sp} (h : fullS s = true) (hn : noT s.2 = false) : ltT s.1 s.2 = true := by
  unfold fullS at h
  rw [hn] at h
  simpa using h

set_option maxRecDepth 100000 in
set_option maxHeartbeats 8000000 in
theorem spanGaps_walk (va : Value) (la : List Sp) (w : World) (hsa : Sl w va la) (hla : la.length ≤ 9223372036854775807) :
    Calls Try.prog 9 #[va] w fun e w' => e = .returned (.bool true) ∧ Below w.heap.size w w' := by
  obtain ⟨aa, ca, rfl⟩ := hsa.form
  have HSa := Lib.hid hsa
  have HLa := Lib.hid hla
  have HB := Lib.hid (Below.refl w.heap.size w)
  clear hsa hla
  go_enter Try.func9, Try.ntmps9
  go_wp2_with fail
  refine (small_any _ la _ HSa.out HLa.out).mono ?_
  rintro e _ ⟨b, rfl, h30, hb⟩
  replace HB := Lib.hid (blThen HB.out hb)
  replace HSa := Lib.hid (HSa.out.later hb)
  clear hb
  cases b
  · go_wp2_with fail
    refine (live_any _).mono ?_
    rintro e _ ⟨rfl, hb⟩
    go_wp2
    go_ret
    exact ⟨rfl, blThen HB.out hb⟩
  replace HLa := Lib.hid (h30 rfl)
  clear h30
  go_wp2_with fail
  refine (union_any _ la _ (Nat.le_trans HLa.out (by decide)) HSa.out).mono ?_
  rintro e W1 ⟨_, rfl, ho, hb⟩
  obtain ⟨au, cu, rfl⟩ := ho.form
  replace HB := Lib.hid (blThen HB.out hb)
  replace HSa := Lib.hid (HSa.out.later hb)
  have HSu := Lib.hid ho.sl
  clear ho hb
  have HU := Lib.hid (uniL_uni la)
  have HLu := Lib.hid (uniL_len la)
  have h30 := HLa.out
  generalize uniL la = u at *
  have hu30 : u.length ≤ 30 := Nat.le_trans HLu.out h30
  go_wp2
  go_loopw [4, 5, 6, 7] (fun i b e k wr => ∃ j : Nat, j ≤ u.length ∧ i = .int .i64 j ∧ Below W1.heap.size W1 wr) (fun i _ _ _ _ => u.length - (intOf i).toNat)
  case atStart => exact ⟨0, Nat.zero_le _, rfl, Below.refl _ _⟩
  case round =>
    obtain ⟨j, hj, rfl, hbr⟩ := hrel
    have HBR := Lib.hid hbr
    clear hbr
    by_cases hlt : j < u.length
    · obtain ⟨s, hs⟩ := at_lt hlt
      obtain ⟨gu, ou, rfl, hgu, c0, c1⟩ := HSu.out.at hs
      replace c0 := cell_in HBR.out hgu c0
      replace c1 := cell_in HBR.out hgu c1
      have hguw := Nat.lt_of_lt_of_le hgu HBR.out.size
      have hj0 : (0 : Int) ≤ (j : Int) := by omega
      have hj1 : (j : Int) < (u.length : Int) := by omega
      have hdj : decide ((j : Int) < (u.length : Int)) = true := decide_eq_true hj1
      have HS := Lib.hid hs
      have HFULL := Lib.hid (set_full HU.out.set hs)
      have HBG : Hid (begB la s la.length = true) := beg_all (HU.out.ends s (List.mem_of_getElem? hs)).1
      have HEN : Hid (endB la s la.length = true) := end_all (HU.out.ends s (List.mem_of_getElem? hs)).2
      clear hs
      cases hn : noT s.2
      · have t1 : s.2.toList.isEmpty = false := hn
        have hl : ltT s.1 s.2 = true := full_lt HFULL.out hn
        have t2 : Op.bytesLess s.2.toList s.1.toList = false := lt_asymm hl
        have t3 : (s.2.toList == s.1.toList) = false := by
          simp only [beq_eq_false_iff_ne]
          intro e
          rw [text_ext e, lt_irrefl] at hl
          cases hl
        clear hl
        clear hn
        by_cases hz : j = 0
        · have hd0 : decide ((0 : Int) < (j : Int)) = false := decide_eq_false (by omega)
          have hd00 : ¬ (0 : Int) < (j : Int) := by omega
          subst hz
          simp only [Nat.zero_mul, Nat.add_zero] at c0 c1
          go_wp2
          go_quiet (fail)
          go_wp2
          go_loopw [5, 6, 7] (fun b e k wr2 => ∃ q : Nat, q ≤ la.length ∧ k = .int .i64 q ∧ b = .bool (begB la s q) ∧ e = .bool (endB la s q) ∧ Below W1.heap.size W1 wr2) (fun _ _ k _ => la.length - (intOf k).toNat)
          case atStart => exact ⟨0, Nat.zero_le _, rfl, rfl, rfl, HBR.out.trans ⟨rfl, rfl, rfl, Nat.le_refl _, fun _ _ => rfl⟩⟩
          case round =>
            rename_i wr2
            obtain ⟨q, hq, rfl, rfl, rfl, hbr⟩ := hrel
            replace HBR := Lib.hid hbr
            clear hbr c0 c1
            by_cases hlt2 : q < la.length
            · obtain ⟨p, hp⟩ := at_lt hlt2
              obtain ⟨ga, oa, rfl, hga, d0, d1⟩ := HSa.out.at hp
              obtain ⟨_, _, he, _, c0, c1⟩ := HSu.out.at HS.out
              simp only [Option.some.injEq, Addr.mk.injEq, and_true] at he
              obtain ⟨rfl, rfl⟩ := he
              replace c0 := cell_in HBR.out hgu c0
              replace c1 := cell_in HBR.out hgu c1
              simp only [Nat.zero_mul, Nat.add_zero] at c0 c1
              replace d0 := cell_in HBR.out hga d0
              replace d1 := cell_in HBR.out hga d1
              have hguw2 := Nat.lt_of_lt_of_le hgu HBR.out.size
              have hgaw2 := Nat.lt_of_lt_of_le hga HBR.out.size
              have hq0 : (0 : Int) ≤ (q : Int) := by omega
              have hq1 : (q : Int) < (la.length : Int) := by omega
              have hdq : decide ((q : Int) < (la.length : Int)) = true := decide_eq_true hq1
              have HB1 := Lib.hid (beg_step (s := s) hp)
              have HE1 := Lib.hid (end_step (s := s) hp)
              clear hp
              generalize begB la s q = b1 at *
              generalize endB la s q = b2 at *
              cases b1 <;> cases b2
              · go_wp2
                go_quiet (fail)
                go_wp2
                go_quiet (fail)
                go_wp2
                go_roundw
                case rel => exact ⟨q + 1, hlt2, by go_num, by rw [HB1.out]; rfl, by rw [HE1.out]; rfl, HBR.out.trans ⟨rfl, rfl, rfl, Nat.le_refl _, fun _ _ => rfl⟩⟩
                case measure => simp [intOf]; omega
              · go_wp2
                go_quiet (fail)
                go_wp2
                go_quiet (fail)
                go_wp2
                go_roundw
                case rel => exact ⟨q + 1, hlt2, by go_num, by rw [HB1.out]; rfl, by rw [HE1.out]; rfl, HBR.out.trans ⟨rfl, rfl, rfl, Nat.le_refl _, fun _ _ => rfl⟩⟩
                case measure => simp [intOf]; omega
              · go_wp2
                go_quiet (fail)
                go_wp2
                go_quiet (fail)
                go_wp2
                go_roundw
                case rel => exact ⟨q + 1, hlt2, by go_num, by rw [HB1.out]; rfl, by rw [HE1.out]; rfl, HBR.out.trans ⟨rfl, rfl, rfl, Nat.le_refl _, fun _ _ => rfl⟩⟩
                case measure => simp [intOf]; omega
              · go_wp2
                go_quiet (fail)
                go_wp2
                go_quiet (fail)
                go_wp2
                go_roundw
                case rel => exact ⟨q + 1, hlt2, by go_num, by rw [HB1.out]; rfl, by rw [HE1.out]; rfl, HBR.out.trans ⟨rfl, rfl, rfl, Nat.le_refl _, fun _ _ => rfl⟩⟩
                case measure => simp [intOf]; omega
            · obtain rfl : q = la.length := by omega
              have hdq : decide ((la.length : Int) < (la.length : Int)) = false := by simp
              rw [HBG.out, HEN.out]
              go_wp2
              go_roundw
              case rel => exact ⟨0 + 1, hlt, by go_num, HBR.out⟩
              case measure => simp [intOf]; omega
        · obtain ⟨m, rfl⟩ : ∃ m, j = m + 1 := ⟨j - 1, by omega⟩
          obtain ⟨t, ht⟩ := at_lt (l := u) (k := m) (by omega)
          obtain ⟨_, _, he, _, b0, b1⟩ := HSu.out.at ht
          simp only [Option.some.injEq, Addr.mk.injEq, and_true] at he
          obtain ⟨rfl, rfl⟩ := he
          replace b0 := cell_in HBR.out hgu b0
          replace b1 := cell_in HBR.out hgu b1
          have hd0 : decide ((0 : Int) < (m : Int) + 1) = true := decide_eq_true (by omega)
          have hm0 : (0 : Int) ≤ (m : Int) := by omega
          have hm1 : (m : Int) < (u.length : Int) := by omega
          have hap : Apart t s := set_rises HU.out.set ht HS.out (Nat.lt_succ_self m)
          have u1 : t.2.toList.isEmpty = false := hap.1
          have hl := hap.2
          have u2 : Op.bytesLess s.1.toList t.2.toList = false := lt_asymm hl
          have u3 : (s.1.toList == t.2.toList) = false := by
            simp only [beq_eq_false_iff_ne]
            intro e
            rw [text_ext e, lt_irrefl] at hl
            cases hl
          clear hl hap ht hz
          go_wp2
          go_quiet (fail)
          go_wp2
          go_loopw [5, 6, 7] (fun b e k wr2 => ∃ q : Nat, q ≤ la.length ∧ k = .int .i64 q ∧ b = .bool (begB la s q) ∧ e = .bool (endB la s q) ∧ Below W1.heap.size W1 wr2) (fun _ _ k _ => la.length - (intOf k).toNat)
          case atStart => exact ⟨0, Nat.zero_le _, rfl, rfl, rfl, HBR.out.trans ⟨rfl, rfl, rfl, Nat.le_refl _, fun _ _ => rfl⟩⟩
          case round =>
            rename_i wr2
            obtain ⟨q, hq, rfl, rfl, rfl, hbr⟩ := hrel
            replace HBR := Lib.hid hbr
            clear hbr c0 c1 b0 b1
            by_cases hlt2 : q < la.length
            · obtain ⟨p, hp⟩ := at_lt hlt2
              obtain ⟨ga, oa, rfl, hga, d0, d1⟩ := HSa.out.at hp
              obtain ⟨_, _, he, _, c0, c1⟩ := HSu.out.at HS.out
              simp only [Option.some.injEq, Addr.mk.injEq, and_true] at he
              obtain ⟨rfl, rfl⟩ := he
              replace c0 := cell_in HBR.out hgu c0
              replace c1 := cell_in HBR.out hgu c1
              replace d0 := cell_in HBR.out hga d0
              replace d1 := cell_in HBR.out hga d1
              have hguw2 := Nat.lt_of_lt_of_le hgu HBR.out.size
              have hgaw2 := Nat.lt_of_lt_of_le hga HBR.out.size
              have hq0 : (0 : Int) ≤ (q : Int) := by omega
              have hq1 : (q : Int) < (la.length : Int) := by omega
              have hdq : decide ((q : Int) < (la.length : Int)) = true := decide_eq_true hq1
              have HB1 := Lib.hid (beg_step (s := s) hp)
              have HE1 := Lib.hid (end_step (s := s) hp)
              clear hp
              generalize begB la s q = b1 at *
              generalize endB la s q = b2 at *
              cases b1 <;> cases b2
              · go_wp2
                go_quiet (fail)
                go_wp2
                go_quiet (fail)
                go_wp2
                go_roundw
                case rel => exact ⟨q + 1, hlt2, by go_num, by rw [HB1.out]; rfl, by rw [HE1.out]; rfl, HBR.out.trans ⟨rfl, rfl, rfl, Nat.le_refl _, fun _ _ => rfl⟩⟩
                case measure => simp [intOf]; omega
              · go_wp2
                go_quiet (fail)
                go_wp2
                go_quiet (fail)
                go_wp2
                go_roundw
                case rel => exact ⟨q + 1, hlt2, by go_num, by rw [HB1.out]; rfl, by rw [HE1.out]; rfl, HBR.out.trans ⟨rfl, rfl, rfl, Nat.le_refl _, fun _ _ => rfl⟩⟩
                case measure => simp [intOf]; omega
              · go_wp2
                go_quiet (fail)
                go_wp2
                go_quiet (fail)
                go_wp2
                go_roundw
                case rel => exact ⟨q + 1, hlt2, by go_num, by rw [HB1.out]; rfl, by rw [HE1.out]; rfl, HBR.out.trans ⟨rfl, rfl, rfl, Nat.le_refl _, fun _ _ => rfl⟩⟩
                case measure => simp [intOf]; omega
              · go_wp2
                go_quiet (fail)
                go_wp2
                go_quiet (fail)
                go_wp2
                go_roundw
                case rel => exact ⟨q + 1, hlt2, by go_num, by rw [HB1.out]; rfl, by rw [HE1.out]; rfl, HBR.out.trans ⟨rfl, rfl, rfl, Nat.le_refl _, fun _ _ => rfl⟩⟩
                case measure => simp [intOf]; omega
            · obtain rfl : q = la.length := by omega
              have hdq : decide ((la.length : Int) < (la.length : Int)) = false := by simp
              rw [HBG.out, HEN.out]
              go_wp2
              go_roundw
              case rel => exact ⟨(m + 1) + 1, hlt, by go_num, HBR.out⟩
              case measure => simp [intOf]; omega
      · have t1 : s.2.toList.isEmpty = true := hn
        clear hn
        by_cases hz : j = 0
        · have hd0 : decide ((0 : Int) < (j : Int)) = false := decide_eq_false (by omega)
          have hd00 : ¬ (0 : Int) < (j : Int) := by omega
          subst hz
          simp only [Nat.zero_mul, Nat.add_zero] at c0 c1
          go_wp2
          go_quiet (fail)
          go_wp2
          go_loopw [5, 6, 7] (fun b e k wr2 => ∃ q : Nat, q ≤ la.length ∧ k = .int .i64 q ∧ b = .bool (begB la s q) ∧ e = .bool (endB la s q) ∧ Below W1.heap.size W1 wr2) (fun _ _ k _ => la.length - (intOf k).toNat)
          case atStart => exact ⟨0, Nat.zero_le _, rfl, rfl, rfl, HBR.out.trans ⟨rfl, rfl, rfl, Nat.le_refl _, fun _ _ => rfl⟩⟩
          case round =>
            rename_i wr2
            obtain ⟨q, hq, rfl, rfl, rfl, hbr⟩ := hrel
            replace HBR := Lib.hid hbr
            clear hbr c0 c1
            by_cases hlt2 : q < la.length
            · obtain ⟨p, hp⟩ := at_lt hlt2
              obtain ⟨ga, oa, rfl, hga, d0, d1⟩ := HSa.out.at hp
              obtain ⟨_, _, he, _, c0, c1⟩ := HSu.out.at HS.out
              simp only [Option.some.injEq, Addr.mk.injEq, and_true] at he
              obtain ⟨rfl, rfl⟩ := he
              replace c0 := cell_in HBR.out hgu c0
              replace c1 := cell_in HBR.out hgu c1
              simp only [Nat.zero_mul, Nat.add_zero] at c0 c1
              replace d0 := cell_in HBR.out hga d0
              replace d1 := cell_in HBR.out hga d1
              have hguw2 := Nat.lt_of_lt_of_le hgu HBR.out.size
              have hgaw2 := Nat.lt_of_lt_of_le hga HBR.out.size
              have hq0 : (0 : Int) ≤ (q : Int) := by omega
              have hq1 : (q : Int) < (la.length : Int) := by omega
              have hdq : decide ((q : Int) < (la.length : Int)) = true := decide_eq_true hq1
              have HB1 := Lib.hid (beg_step (s := s) hp)
              have HE1 := Lib.hid (end_step (s := s) hp)
              clear hp
              generalize begB la s q = b1 at *
              generalize endB la s q = b2 at *
              cases b1 <;> cases b2
              · go_wp2
                go_quiet (fail)
                go_wp2
                go_quiet (fail)
                go_wp2
                go_roundw
                case rel => exact ⟨q + 1, hlt2, by go_num, by rw [HB1.out]; rfl, by rw [HE1.out]; rfl, HBR.out.trans ⟨rfl, rfl, rfl, Nat.le_refl _, fun _ _ => rfl⟩⟩
                case measure => simp [intOf]; omega
              · go_wp2
                go_quiet (fail)
                go_wp2
                go_quiet (fail)
                go_wp2
                go_roundw
                case rel => exact ⟨q + 1, hlt2, by go_num, by rw [HB1.out]; rfl, by rw [HE1.out]; rfl, HBR.out.trans ⟨rfl, rfl, rfl, Nat.le_refl _, fun _ _ => rfl⟩⟩
                case measure => simp [intOf]; omega
              · go_wp2
                go_quiet (fail)
                go_wp2
                go_quiet (fail)
                go_wp2
                go_roundw
                case rel => exact ⟨q + 1, hlt2, by go_num, by rw [HB1.out]; rfl, by rw [HE1.out]; rfl, HBR.out.trans ⟨rfl, rfl, rfl, Nat.le_refl _, fun _ _ => rfl⟩⟩
                case measure => simp [intOf]; omega
              · go_wp2
                go_quiet (fail)
                go_wp2
                go_quiet (fail)
                go_wp2
                go_roundw
                case rel => exact ⟨q + 1, hlt2, by go_num, by rw [HB1.out]; rfl, by rw [HE1.out]; rfl, HBR.out.trans ⟨rfl, rfl, rfl, Nat.le_refl _, fun _ _ => rfl⟩⟩
                case measure => simp [intOf]; omega
            · obtain rfl : q = la.length := by omega
              have hdq : decide ((la.length : Int) < (la.length : Int)) = false := by simp
              rw [HBG.out, HEN.out]
              go_wp2
              go_roundw
              case rel => exact ⟨0 + 1, hlt, by go_num, HBR.out⟩
              case measure => simp [intOf]; omega
        · obtain ⟨m, rfl⟩ : ∃ m, j = m + 1 := ⟨j - 1, by omega⟩
          obtain ⟨t, ht⟩ := at_lt (l := u) (k := m) (by omega)
          obtain ⟨_, _, he, _, b0, b1⟩ := HSu.out.at ht
          simp only [Option.some.injEq, Addr.mk.injEq, and_true] at he
          obtain ⟨rfl, rfl⟩ := he
          replace b0 := cell_in HBR.out hgu b0
          replace b1 := cell_in HBR.out hgu b1
          have hd0 : decide ((0 : Int) < (m : Int) + 1) = true := decide_eq_true (by omega)
          have hm0 : (0 : Int) ≤ (m : Int) := by omega
          have hm1 : (m : Int) < (u.length : Int) := by omega
          have hap : Apart t s := set_rises HU.out.set ht HS.out (Nat.lt_succ_self m)
          have u1 : t.2.toList.isEmpty = false := hap.1
          have hl := hap.2
          have u2 : Op.bytesLess s.1.toList t.2.toList = false := lt_asymm hl
          have u3 : (s.1.toList == t.2.toList) = false := by
            simp only [beq_eq_false_iff_ne]
            intro e
            rw [text_ext e, lt_irrefl] at hl
            cases hl
          clear hl hap ht hz
          go_wp2
          go_quiet (fail)
          go_wp2
          go_loopw [5, 6, 7] (fun b e k wr2 => ∃ q : Nat, q ≤ la.length ∧ k = .int .i64 q ∧ b = .bool (begB la s q) ∧ e = .bool (endB la s q) ∧ Below W1.heap.size W1 wr2) (fun _ _ k _ => la.length - (intOf k).toNat)
          case atStart => exact ⟨0, Nat.zero_le _, rfl, rfl, rfl, HBR.out.trans ⟨rfl, rfl, rfl, Nat.le_refl _, fun _ _ => rfl⟩⟩
          case round =>
            rename_i wr2
            obtain ⟨q, hq, rfl, rfl, rfl, hbr⟩ := hrel
            replace HBR := Lib.hid hbr
            clear hbr c0 c1 b0 b1
            by_cases hlt2 : q < la.length
            · obtain ⟨p, hp⟩ := at_lt hlt2
              obtain ⟨ga, oa, rfl, hga, d0, d1⟩ := HSa.out.at hp
              obtain ⟨_, _, he, _, c0, c1⟩ := HSu.out.at HS.out
              simp only [Option.some.injEq, Addr.mk.injEq, and_true] at he
              obtain ⟨rfl, rfl⟩ := he
              replace c0 := cell_in HBR.out hgu c0
              replace c1 := cell_in HBR.out hgu c1
              replace d0 := cell_in HBR.out hga d0
              replace d1 := cell_in HBR.out hga d1
              have hguw2 := Nat.lt_of_lt_of_le hgu HBR.out.size
              have hgaw2 := Nat.lt_of_lt_of_le hga HBR.out.size
              have hq0 : (0 : Int) ≤ (q : Int) := by omega
              have hq1 : (q : Int) < (la.length : Int) := by omega
              have hdq : decide ((q : Int) < (la.length : Int)) = true := decide_eq_true hq1
              have HB1 := Lib.hid (beg_step (s := s) hp)
              have HE1 := Lib.hid (end_step (s := s) hp)
              clear hp
              generalize begB la s q = b1 at *
              generalize endB la s q = b2 at *
              cases b1 <;> cases b2
              · go_wp2
                go_quiet (fail)
                go_wp2
                go_quiet (fail)
                go_wp2
                go_roundw
                case rel => exact ⟨q + 1, hlt2, by go_num, by rw [HB1.out]; rfl, by rw [HE1.out]; rfl, HBR.out.trans ⟨rfl, rfl, rfl, Nat.le_refl _, fun _ _ => rfl⟩⟩
                case measure => simp [intOf]; omega
              · go_wp2
                go_quiet (fail)
                go_wp2
                go_quiet (fail)
                go_wp2
                go_roundw
                case rel => exact ⟨q + 1, hlt2, by go_num, by rw [HB1.out]; rfl, by rw [HE1.out]; rfl, HBR.out.trans ⟨rfl, rfl, rfl, Nat.le_refl _, fun _ _ => rfl⟩⟩
                case measure => simp [intOf]; omega
              · go_wp2
                go_quiet (fail)
                go_wp2
                go_quiet (fail)
                go_wp2
                go_roundw
                case rel => exact ⟨q + 1, hlt2, by go_num, by rw [HB1.out]; rfl, by rw [HE1.out]; rfl, HBR.out.trans ⟨rfl, rfl, rfl, Nat.le_refl _, fun _ _ => rfl⟩⟩
                case measure => simp [intOf]; omega
              · go_wp2
                go_quiet (fail)
                go_wp2
                go_quiet (fail)
                go_wp2
                go_roundw
                case rel => exact ⟨q + 1, hlt2, by go_num, by rw [HB1.out]; rfl, by rw [HE1.out]; rfl, HBR.out.trans ⟨rfl, rfl, rfl, Nat.le_refl _, fun _ _ => rfl⟩⟩
                case measure => simp [intOf]; omega
            · obtain rfl : q = la.length := by omega
              have hdq : decide ((la.length : Int) < (la.length : Int)) = false := by simp
              rw [HBG.out, HEN.out]
              go_wp2
              go_roundw
              case rel => exact ⟨(m + 1) + 1, hlt, by go_num, HBR.out⟩
              case measure => simp [intOf]; omega
    · obtain rfl : j = u.length := by omega
      have hdj : decide ((u.length : Int) < (u.length : Int)) = false := by simp
      have hlen : (u.length : Int) ≤ (la.length : Int) := by have := HLu.out; omega
      have hdl : decide ((u.length : Int) ≤ (la.length : Int)) = true := decide_eq_true hlen
      replace HB := Lib.hid (blThen HB.out HBR.out)
      go_wp2_with fail
      refine (live_any _).mono ?_
      rintro e _ ⟨rfl, hb⟩
      go_wp2
      go_ret
      exact ⟨rfl, blThen HB.out hb⟩

set_option maxRecDepth 100000 in
theorem spanGaps_lifted (os : Os) (started : os.Started) (H : Type) (enc : TypeId × Value → H) :
    ReturnsInHanded {} Try.checked os 9 .any (Rows.spanGapsSpec.pre6 enc Try.prog Try.f9 Rows.spanGapsRow.domain false) (Rows.spanGapsSpec.post enc Try.prog Try.f9 false true false false) := by
  refine law_lift (C := Try.checked) own0 started (by kernel_rfl) Try.func9 laid0 rfl (by kernel_rfl) (fun _ _ _ _ => trodAll_mk1 (shut_bool Try.underlying4 true)) (fun ds h => match ds, h with | [_], _ => ⟨rfl, rfl, rfl⟩)
    (ChangeSpec.witness6 (enc := enc) (C := Try.checked) false ⟨#[], #[.slice none 0 0], []⟩ 8 (by kernel_rfl) (by kernel_rfl) (by kernel_rfl) (by kernel_rfl)) ?_
  intro W base args ds before hval0 hA0 hlt
  have hval : ∀ (j : Nat) t v, Try.f9.params[j]? = some t → args[j]? = some v → Value.okWide Try.prog W .any base t v := hval0
  have hA : DataW.TrodAll enc Try.prog W 0 (fun _ => true) true Try.f9.params.toList args.toList ds before := hA0
  rw [Try.params9] at hA hval
  obtain ⟨v0, d0, rfl, rfl, h0⟩ := trodAll_one hA
  obtain ⟨la, hs0, hl0⟩ := open_spans (hval 0 22 v0 rfl rfl) h0
  exact spanGaps_walk _ la W hs0 hl0

theorem spanGaps_holds : Rows.SpanGapsSaid :=
  OpenClaim.holds_of_wide 9 Try.f9 rfl rfl rfl rfl rfl rfl rfl ⟨rfl, rfl, rfl, rfl, rfl⟩ rfl rfl rfl rfl rfl (by kernel_rfl) Try.func9 (by kernel_rfl)
    (of_decide_eq_true (by kernel_rfl)) (by unfold Func.isWrapper; rw [if_neg (of_decide_eq_false (by kernel_rfl))]; exact ⟨rfl, rfl⟩)
    (fun os started H enc _ => spanGaps_lifted os started H enc)

#print axioms spanGaps_holds

end Go.Proofs.Ytolbgpcmpbkmmaa
