/- Key, Check, Point of the program and of the reference; num, small of the law. Conditions: as each theorem states. -/
import Derived.Test.YtolbgpcmpbkmmaaKt
set_option linter.unusedVariables false
set_option linter.unusedSimpArgs false
namespace Go.Proofs.Ytolbgpcmpbkmmaa
open Go.RowKit

theorem num_any (n : Int) (w : World) : Calls Try.prog 11 #[.int .i64 n] w fun e w' => e = .returned (.int .i64 n) ∧ w = w' := by
  go_enter Try.func11, Try.ntmps11
  go_wp2
  go_ret
  exact ⟨rfl, rfl⟩
/-- Whether a text may be a key. -/
def keyB (k : ByteArray) : Bool := decide (1 ≤ k.size ∧ k.size ≤ 16)
theorem key_any (k : ByteArray) (w : World) : Calls Try.prog 12 #[.string k] w fun e w' => e = .returned (.int .i64 (if keyB k then 0 else 30)) ∧ w = w' := by
  by_cases h1 : k.size < 1
  · have hv : keyB k = false := by simp [keyB]; omega
    have h1I : (k.size : Int) < 1 := by omega
    have hd : decide ((k.size : Int) < 1) = true := by simpa using h1I
    rw [hv]
    go_enter Try.func12, Try.ntmps12
    go_wp2
    go_ret
    exact ⟨rfl, rfl⟩
  · by_cases h2 : 16 < k.size
    · have hv : keyB k = false := by simp [keyB]; omega
      have h1I : ¬ (k.size : Int) < 1 := by omega
      have h2I : (16 : Int) < (k.size : Int) := by omega
      have hd : decide ((k.size : Int) < 1) = false := by simpa using h1I
      have hd2 : decide ((16 : Int) < (k.size : Int)) = true := by simpa using h2I
      rw [hv]
      go_enter Try.func12, Try.ntmps12
      go_wp2
      go_ret
      exact ⟨rfl, rfl⟩
    · have hv : keyB k = true := by simp [keyB]; omega
      have h1I : ¬ (k.size : Int) < 1 := by omega
      have h2I : ¬ (16 : Int) < (k.size : Int) := by omega
      have hd : decide ((k.size : Int) < 1) = false := by simpa using h1I
      have hd2 : decide ((16 : Int) < (k.size : Int)) = false := by simpa using h2I
      rw [hv]
      go_enter Try.func12, Try.ntmps12
      go_wp2
      go_ret
      exact ⟨rfl, rfl⟩
theorem refkey_any (k : ByteArray) (w : World) : Calls Try.prog 13 #[.string k] w fun e w' => e = .returned (.bool (keyB k)) ∧ w = w' := by
  by_cases h1 : 1 ≤ k.size
  · by_cases h2 : k.size ≤ 16
    · have hv : keyB k = true := by simp [keyB]; omega
      have h1I : (1 : Int) ≤ (k.size : Int) := by omega
      have h2I : (k.size : Int) ≤ 16 := by omega
      have hd : decide ((1 : Int) ≤ (k.size : Int)) = true := by simpa using h1I
      have hd2 : decide ((k.size : Int) ≤ 16) = true := by simpa using h2I
      rw [hv]
      go_enter Try.func13, Try.ntmps13
      go_wp2
      go_ret
      exact ⟨rfl, rfl⟩
    · have hv : keyB k = false := by simp [keyB]; omega
      have h1I : (1 : Int) ≤ (k.size : Int) := by omega
      have h2I : ¬ (k.size : Int) ≤ 16 := by omega
      have hd : decide ((1 : Int) ≤ (k.size : Int)) = true := by simpa using h1I
      have hd2 : decide ((k.size : Int) ≤ 16) = false := by simpa using h2I
      rw [hv]
      go_enter Try.func13, Try.ntmps13
      go_wp2
      go_ret
      exact ⟨rfl, rfl⟩
  · have hv : keyB k = false := by simp [keyB]; omega
    have h1I : ¬ (1 : Int) ≤ (k.size : Int) := by omega
    have hd : decide ((1 : Int) ≤ (k.size : Int)) = false := by simpa using h1I
    rw [hv]
    go_enter Try.func13, Try.ntmps13
    go_wp2
    go_ret
    exact ⟨rfl, rfl⟩

theorem point_any (k : ByteArray) (w : World) (hk : k.size ≤ 1000000000) : Calls Try.prog 17 #[.string k] w fun e w' => e = .returned (.agg #[.string k, .string (k ++ ⟨#[0]⟩)]) ∧ Below w.heap.size w w' := by
  have hs : ((k.size + (⟨#[0]⟩ : ByteArray).size : Nat) : Int) ≤ IntKind.i64.max := by
    show ((k.size + 1 : Nat) : Int) ≤ 9223372036854775807
    omega
  go_enter Try.func17, Try.ntmps17
  go_wp2
  exact bodyPost_ret (v := .agg #[.string k, .string (k ++ ⟨#[0]⟩)]) (by simp [results, Try.results17, go_sem]) rfl ⟨rfl, blAlloc (Below.refl _ _) _⟩

/-- A span that may not be. -/
def badS (s : Sp) : Bool := decide (17 < s.1.size) || decide (17 < s.2.size) || !fullS s
def checkN (l : List Sp) : Int := if 64 < l.length then 6 else if l.any badS then 30 else 0
theorem any_take {l : List Sp} {k : Nat} {s : Sp} (hs : l[k]? = some s) (h : (l.take k).any badS = false) (hb : badS s = false) : (l.take (k + 1)).any badS = false := by
  rw [List.take_add_one, hs, List.any_append, h]
  simp [hb]
theorem check_bad {l : List Sp} {k : Nat} {s : Sp} (hl : ¬ 64 < l.length) (hs : l[k]? = some s) (hb : badS s = true) : checkN l = 30 := by
  unfold checkN
  rw [if_neg hl, if_pos]
  exact List.any_eq_true.2 ⟨s, List.mem_of_getElem? hs, hb⟩
theorem check_good {l : List Sp} {k : Nat} (hl : ¬ 64 < l.length) (hk : l.length ≤ k) (h : (l.take k).any badS = false) : checkN l = 0 := by
  unfold checkN
  rw [List.take_of_length_le hk] at h
  rw [if_neg hl, h]
  rfl

set_option maxRecDepth 100000 in
set_option maxHeartbeats 4000000 in
theorem check_any (va : Value) (l : List Sp) (w : World) (hlen : l.length ≤ 1000000) (ha : Sl w va l) : Calls Try.prog 14 #[va] w fun e w' => e = .returned (.int .i64 (checkN l)) ∧ Below w.heap.size w w' := by
  obtain ⟨aa, ca, rfl⟩ := ha.form
  have HA := Lib.hid ha
  clear ha
  generalize hv : checkN l = v
  have HV := Lib.hid hv
  clear hv
  by_cases hl : 64 < l.length
  · have hlI : (64 : Int) < (l.length : Int) := by omega
    have hd : decide ((64 : Int) < (l.length : Int)) = true := decide_eq_true hlI
    have HF : Hid (checkN l = 6) := by show checkN l = 6; unfold checkN; rw [if_pos hl]
    clear hl
    go_enter Try.func14, Try.ntmps14
    go_wp2
    go_ret
    exact ⟨ret_int (HF.out.symm.trans HV.out), Below.refl _ _⟩
  · have hlI : ¬ (64 : Int) < (l.length : Int) := by omega
    have hd : decide ((64 : Int) < (l.length : Int)) = false := decide_eq_false hlI
    have HLN := Lib.hid hl
    have hl64 : l.length ≤ 64 := by omega
    clear hl
    go_enter Try.func14, Try.ntmps14
    go_wp2
    go_loopw [10] (fun i wr => ∃ k : Nat, k ≤ l.length ∧ i = .int .i64 k ∧ (l.take k).any badS = false ∧ Below w.heap.size w wr) (fun i _ => l.length - (intOf i).toNat)
    case atStart => exact ⟨0, Nat.zero_le _, rfl, rfl, Below.refl _ _⟩
    case round =>
      obtain ⟨k, hk, rfl, hno, hb⟩ := hrel
      have HNO := Lib.hid hno
      have HB := Lib.hid hb
      clear hno
      by_cases hlt : k < l.length
      · obtain ⟨s, hs⟩ := at_lt hlt
        obtain ⟨g, o, rfl, hg, c0, c1⟩ := HA.out.at hs
        replace c0 := cell_in hb hg c0
        replace c1 := cell_in hb hg c1
        have hgw := Nat.lt_of_lt_of_le hg hb.size
        have HS := Lib.hid hs
        have hk0 : (0 : Int) ≤ (k : Int) := by omega
        have hk1 : (k : Int) < (l.length : Int) := by omega
        clear hs hb
        by_cases s1 : 17 < s.1.size
        · have HBAD : Hid (badS s = true) := by show badS s = true; simp [badS, s1]
          have p1 : (17 : Int) < (s.1.size : Int) := by omega
          have q1 : decide ((17 : Int) < (s.1.size : Int)) = true := decide_eq_true p1
          clear s1
          have HCN : Hid (checkN l = 30) := check_bad HLN.out HS.out HBAD.out
          go_wp2
          go_ret
          exact ⟨ret_int (HCN.out.symm.trans HV.out), blAlloc HB.out _⟩
        · have p1 : ¬ (17 : Int) < (s.1.size : Int) := by omega
          have q1 : decide ((17 : Int) < (s.1.size : Int)) = false := decide_eq_false p1
          have b1 : decide (17 < s.1.size) = false := decide_eq_false s1
          clear s1
          by_cases s2 : 17 < s.2.size
          · have HBAD : Hid (badS s = true) := by show badS s = true; simp [badS, s2]
            have p2 : (17 : Int) < (s.2.size : Int) := by omega
            have q2 : decide ((17 : Int) < (s.2.size : Int)) = true := decide_eq_true p2
            clear s2 b1
            have HCN : Hid (checkN l = 30) := check_bad HLN.out HS.out HBAD.out
            go_wp2
            go_ret
            exact ⟨ret_int (HCN.out.symm.trans HV.out), blAlloc HB.out _⟩
          · have p2 : ¬ (17 : Int) < (s.2.size : Int) := by omega
            have q2 : decide ((17 : Int) < (s.2.size : Int)) = false := decide_eq_false p2
            have b2 : decide (17 < s.2.size) = false := decide_eq_false s2
            clear s2
            cases hfu : fullS s
            · have HFU := Lib.hid hfu
              have HBAD : Hid (badS s = true) := by show badS s = true; simp [badS, hfu]
              clear hfu b1 b2
              have HCN : Hid (checkN l = 30) := check_bad HLN.out HS.out HBAD.out
              go_wp2_with (go_at_call 30; refine (isEmpty_any s _).mono ?_; rintro r w2 ⟨rfl, rfl⟩; rw [HFU.out])
              go_ret
              exact ⟨ret_int (HCN.out.symm.trans HV.out), blAlloc (blAlloc HB.out _) _⟩
            · have HFU := Lib.hid hfu
              have HGOOD : Hid (badS s = false) := by show badS s = false; simp [badS, hfu, b1, b2]
              clear hfu b1 b2
              go_wp2_with (go_at_call 30; refine (isEmpty_any s _).mono ?_; rintro r w2 ⟨rfl, rfl⟩; rw [HFU.out])
              go_roundw
              case rel => exact ⟨k + 1, hlt, by go_num, any_take HS.out HNO.out HGOOD.out, blAlloc (blAlloc HB.out _) _⟩
              case measure => simp [intOf]; omega
      · have HF : Hid (checkN l = 0) := check_good HLN.out (by omega) HNO.out
        clear hb
        go_wp2
        go_ret
        exact ⟨ret_int (HF.out.symm.trans HV.out), HB.out⟩

set_option maxRecDepth 100000 in
set_option maxHeartbeats 4000000 in
theorem refcheck_any (va : Value) (l : List Sp) (w : World) (hlen : l.length ≤ 1000000) (ha : Sl w va l) : Calls Try.prog 16 #[va] w fun e w' => e = .returned (.int .i64 (checkN l)) ∧ Below w.heap.size w w' := by
  obtain ⟨aa, ca, rfl⟩ := ha.form
  have HA := Lib.hid ha
  clear ha
  generalize hv : checkN l = v
  have HV := Lib.hid hv
  clear hv
  by_cases hl : 64 < l.length
  · have hlI : (64 : Int) < (l.length : Int) := by omega
    have hd : decide ((64 : Int) < (l.length : Int)) = true := decide_eq_true hlI
    have HF : Hid (checkN l = 6) := by show checkN l = 6; unfold checkN; rw [if_pos hl]
    clear hl
    go_enter Try.func16, Try.ntmps16
    go_wp2
    go_ret
    exact ⟨ret_int (HF.out.symm.trans HV.out), Below.refl _ _⟩
  · have hlI : ¬ (64 : Int) < (l.length : Int) := by omega
    have hd : decide ((64 : Int) < (l.length : Int)) = false := decide_eq_false hlI
    have HLN := Lib.hid hl
    have hl64 : l.length ≤ 64 := by omega
    clear hl
    go_enter Try.func16, Try.ntmps16
    go_wp2
    go_loopw [3] (fun i wr => ∃ k : Nat, k ≤ l.length ∧ i = .int .i64 k ∧ (l.take k).any badS = false ∧ Below w.heap.size w wr) (fun i _ => l.length - (intOf i).toNat)
    case atStart => exact ⟨0, Nat.zero_le _, rfl, rfl, Below.refl _ _⟩
    case round =>
      obtain ⟨k, hk, rfl, hno, hb⟩ := hrel
      have HNO := Lib.hid hno
      have HB := Lib.hid hb
      clear hno
      by_cases hlt : k < l.length
      · obtain ⟨s, hs⟩ := at_lt hlt
        obtain ⟨g, o, rfl, hg, c0, c1⟩ := HA.out.at hs
        replace c0 := cell_in hb hg c0
        replace c1 := cell_in hb hg c1
        have hgw := Nat.lt_of_lt_of_le hg hb.size
        have HS := Lib.hid hs
        have hk0 : (0 : Int) ≤ (k : Int) := by omega
        have hk1 : (k : Int) < (l.length : Int) := by omega
        clear hs hb
        by_cases s1 : 17 < s.1.size
        · have HBAD : Hid (badS s = true) := by show badS s = true; simp [badS, s1]
          have p1 : (17 : Int) < (s.1.size : Int) := by omega
          have q1 : decide ((17 : Int) < (s.1.size : Int)) = true := decide_eq_true p1
          clear s1
          have HCN : Hid (checkN l = 30) := check_bad HLN.out HS.out HBAD.out
          go_wp2
          go_quiet (fail)
          go_wp2
          go_ret
          exact ⟨ret_int (HCN.out.symm.trans HV.out), HB.out.trans ⟨rfl, rfl, rfl, Nat.le_refl _, fun _ _ => rfl⟩⟩
        · have p1 : ¬ (17 : Int) < (s.1.size : Int) := by omega
          have q1 : decide ((17 : Int) < (s.1.size : Int)) = false := decide_eq_false p1
          have b1 : decide (17 < s.1.size) = false := decide_eq_false s1
          clear s1
          by_cases s2 : 17 < s.2.size
          · have HBAD : Hid (badS s = true) := by show badS s = true; simp [badS, s2]
            have p2 : (17 : Int) < (s.2.size : Int) := by omega
            have q2 : decide ((17 : Int) < (s.2.size : Int)) = true := decide_eq_true p2
            clear s2 b1
            have HCN : Hid (checkN l = 30) := check_bad HLN.out HS.out HBAD.out
            go_wp2
            go_quiet (fail)
            go_wp2
            go_ret
            exact ⟨ret_int (HCN.out.symm.trans HV.out), HB.out.trans ⟨rfl, rfl, rfl, Nat.le_refl _, fun _ _ => rfl⟩⟩
          · have p2 : ¬ (17 : Int) < (s.2.size : Int) := by omega
            have q2 : decide ((17 : Int) < (s.2.size : Int)) = false := decide_eq_false p2
            have b2 : decide (17 < s.2.size) = false := decide_eq_false s2
            clear s2
            cases hn : noT s.2
            · have t1 : s.2.toList.isEmpty = false := hn
              cases hlt1 : ltT s.1 s.2
              · have HBAD : Hid (badS s = true) := by show badS s = true; simp [badS, fullS, hn, hlt1]
                cases hlt2 : ltT s.2 s.1
                · have t2 : Op.bytesLess s.2.toList s.1.toList = false := hlt2
                  have t3 : (s.2.toList == s.1.toList) = true := by rw [lt_total hlt2 hlt1]; simp
                  clear hn hlt1 hlt2 b1 b2
                  have HCN : Hid (checkN l = 30) := check_bad HLN.out HS.out HBAD.out
                  go_wp2
                  go_quiet (fail)
                  go_wp2
                  go_ret
                  exact ⟨ret_int (HCN.out.symm.trans HV.out), HB.out.trans ⟨rfl, rfl, rfl, Nat.le_refl _, fun _ _ => rfl⟩⟩
                · have t2 : Op.bytesLess s.2.toList s.1.toList = true := hlt2
                  clear hn hlt1 hlt2 b1 b2
                  have HCN : Hid (checkN l = 30) := check_bad HLN.out HS.out HBAD.out
                  go_wp2
                  go_quiet (fail)
                  go_wp2
                  go_ret
                  exact ⟨ret_int (HCN.out.symm.trans HV.out), HB.out.trans ⟨rfl, rfl, rfl, Nat.le_refl _, fun _ _ => rfl⟩⟩
              · have HGOOD : Hid (badS s = false) := by show badS s = false; simp [badS, fullS, hlt1, b1, b2]
                have t2 : Op.bytesLess s.2.toList s.1.toList = false := lt_asymm hlt1
                have t3 : (s.2.toList == s.1.toList) = false := by
                  simp only [beq_eq_false_iff_ne]
                  intro e
                  rw [text_ext e, lt_irrefl] at hlt1
                  cases hlt1
                clear hn hlt1 b1 b2
                go_wp2
                go_quiet (fail)
                go_wp2
                go_roundw
                case rel => exact ⟨k + 1, hlt, by go_num, any_take HS.out HNO.out HGOOD.out, HB.out.trans ⟨rfl, rfl, rfl, Nat.le_refl _, fun _ _ => rfl⟩⟩
                case measure => simp [intOf]; omega
            · have t1 : s.2.toList.isEmpty = true := hn
              have HGOOD : Hid (badS s = false) := by show badS s = false; simp [badS, fullS, hn, b1, b2]
              clear hn b1 b2
              go_wp2
              go_quiet (fail)
              go_wp2
              go_roundw
              case rel => exact ⟨k + 1, hlt, by go_num, any_take HS.out HNO.out HGOOD.out, HB.out.trans ⟨rfl, rfl, rfl, Nat.le_refl _, fun _ _ => rfl⟩⟩
              case measure => simp [intOf]; omega
      · have HF : Hid (checkN l = 0) := check_good HLN.out (by omega) HNO.out
        clear hb
        go_wp2
        go_ret
        exact ⟨ret_int (HF.out.symm.trans HV.out), HB.out⟩

/-- It returns whether a list is small: true of lists of at most 30 spans alone. -/
def RetSmall (w : World) (l : List Sp) (e : Ending) (w' : World) : Prop := ∃ b : Bool, e = .returned (.bool b) ∧ (b = true → l.length ≤ 30) ∧ Below w.heap.size w w'
set_option maxRecDepth 100000 in
set_option maxHeartbeats 4000000 in
theorem small_any (va : Value) (l : List Sp) (w : World) (ha : Sl w va l) (hlen : l.length ≤ 9223372036854775807) : Calls Try.prog 18 #[va] w (RetSmall w l) := by
  obtain ⟨aa, ca, rfl⟩ := ha.form
  have HA := Lib.hid ha
  clear ha
  go_enter Try.func18, Try.ntmps18
  go_wp2
  go_loopw [3, 4] (fun n i wr => ∃ (m : Int) (k : Nat), n = .int .i64 m ∧ k ≤ l.length ∧ k ≤ 129 ∧ i = .int .i64 k ∧ Below w.heap.size w wr) (fun _ i _ => 129 - (intOf i).toNat)
  case atStart => exact ⟨0, 0, rfl, Nat.zero_le _, Nat.zero_le _, rfl, Below.refl _ _⟩
  case round =>
    obtain ⟨m, k, rfl, hk, hk9, rfl, hb⟩ := hrel
    have HB := Lib.hid hb
    by_cases hlt : k < l.length
    · by_cases h128 : k ≤ 128
      · obtain ⟨s, hs⟩ := at_lt hlt
        obtain ⟨g, o, rfl, hg, c0, c1⟩ := HA.out.at hs
        replace c0 := cell_in hb hg c0
        replace c1 := cell_in hb hg c1
        have hgw := Nat.lt_of_lt_of_le hg hb.size
        have hk0 : (0 : Int) ≤ (k : Int) := by omega
        have hk1 : (k : Int) < (l.length : Int) := by omega
        have hk2 : (k : Int) ≤ 128 := by omega
        have hd1 : decide ((k : Int) < (l.length : Int)) = true := decide_eq_true hk1
        have hd2 : decide ((k : Int) ≤ 128) = true := decide_eq_true hk2
        clear hs hb
        go_wp2
        go_quiet (fail)
        go_wp2
        go_roundw
        case rel => exact ⟨_, k + 1, rfl, hlt, by omega, by go_num, HB.out.trans ⟨rfl, rfl, rfl, Nat.le_refl _, fun _ _ => rfl⟩⟩
        case measure => simp [intOf]; omega
      · have hk1 : (k : Int) < (l.length : Int) := by omega
        have hk2 : ¬ (k : Int) ≤ 128 := by omega
        have hd1 : decide ((k : Int) < (l.length : Int)) = true := decide_eq_true hk1
        have hd2 : decide ((k : Int) ≤ 128) = false := decide_eq_false hk2
        have h30 : ¬ (l.length : Int) ≤ 30 := by omega
        have hd3 : decide ((l.length : Int) ≤ 30) = false := decide_eq_false h30
        clear hb
        go_wp2
        go_ret
        exact ⟨false, rfl, (fun h => by cases h), HB.out⟩
    · have hk1 : ¬ (k : Int) < (l.length : Int) := by omega
      have hd1 : decide ((k : Int) < (l.length : Int)) = false := decide_eq_false hk1
      clear hb
      by_cases h30 : l.length ≤ 30
      · have h30I : (l.length : Int) ≤ 30 := by omega
        have hd3 : decide ((l.length : Int) ≤ 30) = true := decide_eq_true h30I
        by_cases hm : m ≤ 4000
        · have hd4 : decide (m ≤ 4000) = true := decide_eq_true hm
          go_wp2
          go_ret
          exact ⟨true, rfl, fun _ => h30, HB.out⟩
        · have hd4 : decide (m ≤ 4000) = false := decide_eq_false hm
          go_wp2
          go_ret
          exact ⟨false, rfl, (fun h => by cases h), HB.out⟩
      · have h30I : ¬ (l.length : Int) ≤ 30 := by omega
        have hd3 : decide ((l.length : Int) ≤ 30) = false := decide_eq_false h30I
        go_wp2
        go_ret
        exact ⟨false, rfl, (fun h => by cases h), HB.out⟩

end Go.Proofs.Ytolbgpcmpbkmmaa
