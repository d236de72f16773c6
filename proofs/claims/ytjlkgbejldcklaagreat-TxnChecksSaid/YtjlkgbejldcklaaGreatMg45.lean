/- TxnChecks. Conditions: none. -/
import Derived.Deep.RegionHeld3
import Derived.WalkSpells
import Derived.Test.YtjlkgbejldcklaaGreatMg44
import Derived.Test.YtjlkgbejldcklaaGreatMg42
import Derived.Test.YtjlkgbejldcklaaGreatMg41
import Derived.Test.YtjlkgbejldcklaaGreatMg40
import Derived.Test.YtjlkgbejldcklaaGreatMg35
/- The contract of the reference's Parse of ops: it answers what the program's does. Conditions: at most 20000 bytes. -/
set_option linter.unusedVariables false
set_option linter.unusedSimpArgs false
namespace Go.Proofs.YtjlkgbejldcklaaGreat
open S3 SN
namespace SP
open Go.ChangeShapes Go.WideShapes Go.ChangeAt Go.RowKit Go.Joins Go.Deep

theorem many_all {α : Type} {k : Cod α} {P : α → Prop} (h : ∀ c, P (k.val c)) (n : Nat) : ∀ c, ∀ x ∈ (many k n c).1, P x := by
  induction n with
  | zero => intro c x hx; cases hx
  | succ n ih =>
    intro c x hx
    unfold many at hx
    split at hx
    · cases hx
    · rcases List.mem_cons.1 hx with rfl | hx
      · exact h c
      · exact ih _ x hx
theorem kd_wf {o : Opr} (h : okB o = true) : (Lit.int .i64 o.1).wf = true := by
  have hk : o.1 = 1 ∨ o.1 = 2 ∨ o.1 = 3 ∨ o.1 = 4 ∨ o.1 = 5 ∨ o.1 = 6 := by
    unfold okB suitB at h
    simp only [Bool.and_eq_true] at h
    obtain ⟨_, h⟩ := h
    split at h
    · omega
    split at h
    · omega
    split at h
    · omega
    split at h
    · omega
    · cases h
  rcases hk with e | e | e | e | e | e <;> rw [e] <;> decide
theorem noT_size {s : ByteArray} (h : noT s = true) : s.size ≤ 1000 := by
  have e : s.toList = [] := by simpa [noT] using h
  have := congrArg List.length e
  have h2 : s.size = s.toList.length := by rw [toList_data, S2.ba_len]
  rw [h2, e]
  decide
theorem ok_sizes {o : Opr} (h : okB o = true) : o.2.1.size ≤ 1000 ∧ o.2.2.1.size ≤ 1000 := by
  have kb : ∀ k : ByteArray, keyB k = true → k.size ≤ 1000 := fun k hk => by have := of_decide_eq_true hk; omega
  unfold okB suitB at h
  simp only [Bool.and_eq_true] at h
  obtain ⟨⟨h1, _⟩, h⟩ := h
  refine ⟨kb _ h1, ?_⟩
  split at h
  · simp only [Bool.and_eq_true] at h
    exact noT_size h.1
  split at h
  · simp only [Bool.and_eq_true, Bool.or_eq_true] at h
    rcases h.1 with h | h
    · exact noT_size h
    · exact kb _ h.1
  split at h
  · exact noT_size h
  split at h
  · simp only [Bool.and_eq_true] at h
    exact kb _ h.1
  · cases h
theorem good8 {l : List Opr} (h : checkP l = 0) (hn : ∀ o ∈ l, o.2.2.2 < 18446744073709551616) : (cO.list.upto 8).good l := by
  obtain ⟨h8, _, hok⟩ := check_kd h
  refine ⟨⟨by omega, fun o ho => ?_⟩, h8⟩
  have h1 := ok_sizes (hok o ho)
  exact ⟨kd_wf (hok o ho), Nat.le_trans h1.1 (by decide), Nat.le_trans h1.2 (by decide), hn o ho⟩
theorem cOs_ok : cO.list.Ok := Cod.list_ok cO_ok cO_pos
theorem parseP_nums {B : List UInt8} {d : List Opr} (h : parseP B = some d) : ∀ o ∈ d, o.2.2.2 < 18446744073709551616 := by
  have h2 := parseP_is B
  rw [h] at h2
  split at h2
  · have e := Option.some.inj h2
    rw [e]
    exact many_all (k := cO) (P := fun o => o.2.2.2 < 18446744073709551616) (fun c => u64_lt _) _ _
  · cases h2
/-- What the reference tests, behind its reading, says whether the bytes are a transaction. -/
theorem parse8_iff {B : List UInt8} {Fo : List Opr} {i : Nat} {bb : Bool} (hfr : Fr (cO.list.upto 8) B 0 false Fo i bb) (hn : ∀ o ∈ Fo, o.2.2.2 < 18446744073709551616) :
    (S2.doneN (B.drop i) bb = 0 ∧ checkP Fo = 0 ∧ layP Fo = B → parseP B = some Fo) ∧ (∀ d, parseP B = some d → S2.doneN (B.drop i) bb = 0 ∧ checkP Fo = 0 ∧ layP Fo = B) := by
  refine ⟨fun ⟨_, h2, h3⟩ => ?_, fun d h => ?_⟩
  · have := parseK_front cOs_ok (check := checkP) (good8 h2 hn).1 h2 []
    rw [List.append_nil, if_pos rfl, cOs_lay, h3] at this
    exact this
  · obtain ⟨p1, p2⟩ := parseK_some cOs_ok h
    obtain ⟨f1, f2, f3⟩ := hfr d [] rfl (by rw [List.drop_zero, List.append_nil]; exact p1.symm) (good8 p2 (parseP_nums h))
    rw [f1, f2, f3]
    refine ⟨rfl, p2, ?_⟩
    rw [← cOs_lay]
    exact p1

set_option maxRecDepth 100000 in
set_option maxHeartbeats 8000000 in
theorem rparse8_any (g0 : Nat) (a : Option Addr) (n c : Nat) (B : List UInt8) (w : World) (hb : S2.Bw w g0 (.slice a n c) B) (hlen : B.length ≤ 20000) :
    Calls Tryz.prog 43 #[.slice a n c] w (RetPa w B) := by
  have HB := Lib.hid hb
  clear hb
  go_enter Tryz.func43, Tryz.ntmps43
  go_wp2_with fail
  refine (S2.rOpen_w _ g0 _ B HB.out hlen).mono ?_
  rintro e w1 ⟨b, g, rfl, he, hb1, hg1, hbel⟩
  have HE1 := Lib.hid he
  have HB1 := Lib.hid hbel
  have HBB : Hid (w.heap.size ≤ b) := hb1
  clear he hb1 hg1 hbel
  go_wp2_with fail
  refine (rread8_any w1 b g B 0 false HE1.out).mono ?_
  rintro e w2 ⟨v2, F, i, bb, rfl, h1, h2, h3, h4, h5, h6, h7⟩
  obtain ⟨hp1, hp2⟩ := parse8_iff h6 h3
  have HDL := Lib.hid (OwnG.mono h1 HB1.out.size)
  have HNM := Lib.hid h3
  have HF9 : Hid (F.length ≤ 9) := h2
  have HE2 := Lib.hid h4
  have HB2 : Hid (Below w.heap.size w w2) := HB1.out.trans (h5.below HB1.out.size fun x hx e => by have e2 : x = b := e; have := HBB.out; omega)
  have HBW2 := Lib.hid (bw_keep HB.out HB2.out)
  have HP1 := Lib.hid hp1
  have HP2 := Lib.hid hp2
  obtain ⟨av, cv, rfl⟩ := h1.form
  clear h1 h2 h3 h4 h5 h6 h7 HE1 HB1 hp1 hp2
  have HK := Lib.hid (fun (Y : World) (h : Below w2.heap.size w2 Y) => bw_str (bw_keep HBW2.out h))
  have HFAIL : Hid (¬ (S2.doneN (B.drop i) bb = 0 ∧ checkP F = 0 ∧ layP F = B) → parseP B = none) := by
    intro h
    cases hp : parseP B with
    | none => rfl
    | some d => exact absurd (HP2.out d hp) h
  by_cases t1 : S2.doneN (B.drop i) bb = 0
  · by_cases t2 : checkP F = 0
    · have HKS : Hid (∀ o ∈ F, o.2.1.size ≤ 1000 ∧ o.2.2.1.size ≤ 1000) := fun o ho => ok_sizes ((check_kd t2).2.2 o ho)
      by_cases t3 : layP F = B
      · have HOK := Lib.hid (HP1.out ⟨t1, t2, t3⟩)
        have HT1 := Lib.hid t1
        have HT2 := Lib.hid t2
        have HT3 := Lib.hid t3
        clear t1 t2 t3
        go_wp2_with fail
        refine wp_region_held_drew (S := (fun Y => (convert 23 9 (.slice a n c)).run Tryz.prog Y = .ok (.string ⟨B.toArray⟩) Y)) (by kernel_rfl) (HK.out _ (Below.refl w2.heap.size w2).drew) (fun hHeld => ?_)
        refine wpAnyH_take (i := 0) (oi := { dst := some 10, op := Op.move (Operand.tmp 4), type := 141, pos := "ref.go:217", after := #[], guard := none }) (v := ?_) rfl (by kernel_rfl) (by kernel_rfl) (by kernel_rfl) (fun _ _ _ h => h) (Or.inl ⟨by rfl, ?_⟩) (by assumption) ?_
        rotate_left
        · intro w hSw
          try dsimp only at hSw
          go_simp
          try with_reducible rfl
        try simp only [Act.put, List.setIfInBounds_toArray, List.set_cons_zero, List.set_cons_succ]
        refine wpAnyH_ready (rs := [1]) (by kernel_rfl) (by simp) ?_
        refine AllReadyH.cons (o := { dst := some 11, op := Op.call { callee := Callee.value (Operand.func 100), args := #[Operand.tmp 10], argTypes := #[141] }, type := 3, pos := "ref.go:217", after := #[{ on := 0, ground := Ground.data }], guard := none }) rfl (fun K hK => ?_) ?_
        rotate_left
        · exact AllReadyH.nil
        go_simp
        go_at_call 100
        refine (S2.rDone_any _ b g B i bb (HE2.out.before (S2.Keeps.drew _ _))).mono ?_
        rintro e w3 ⟨rfl, h5⟩
        rw [HT1.out]
        have HB3 : Hid (Below w2.heap.size w2 w3) := blThen (by repeat (first | with_reducible exact Below.refl _ _ | with_reducible refine blAlloc ?_ _ | with_reducible refine Below.drew ?_)) h5
        clear h5
        refine hK.out _ _ (HK.out _ HB3.out) (fun hHeld => ?_)
        clear hK K
        try simp only [Act.put, List.setIfInBounds_toArray, List.set_cons_zero, List.set_cons_succ]
        refine wpAnyH_take (i := 2) (oi := { dst := some 12, op := Op.binOp BinOp.neq 3 (Operand.tmp 11) (Operand.const (Value.int IntKind.i64 0)) 3, type := 4, pos := "ref.go:217", after := #[{ on := 1, ground := Ground.data }], guard := none }) (v := ?_) rfl (by kernel_rfl) (by kernel_rfl) (by kernel_rfl) (fun _ _ _ h => h) (Or.inl ⟨by rfl, ?_⟩) (by assumption) ?_
        rotate_left
        · intro w hSw
          try dsimp only at hSw
          go_simp
          try with_reducible rfl
        try simp only [Act.put, List.setIfInBounds_toArray, List.set_cons_zero, List.set_cons_succ]
        refine wpAnyH_take (i := 3) (oi := { dst := some 13, op := Op.move (Operand.tmp 12), type := 4, pos := "ref.go:217", after := #[{ on := 2, ground := Ground.data }, { on := 1, ground := Ground.chain }], guard := none }) (v := ?_) rfl (by kernel_rfl) (by kernel_rfl) (by kernel_rfl) (fun _ _ _ h => h) (Or.inl ⟨by rfl, ?_⟩) (by assumption) ?_
        rotate_left
        · intro w hSw
          try dsimp only at hSw
          go_simp
          try with_reducible rfl
        try simp only [Act.put, List.setIfInBounds_toArray, List.set_cons_zero, List.set_cons_succ]
        refine wpAnyH_take (i := 4) (oi := { dst := some 14, op := Op.move (Operand.tmp 5), type := 58, pos := "ref.go:217", after := #[{ on := 3, ground := Ground.guard }], guard := some (3, false) }) (v := ?_) rfl (by kernel_rfl) (by kernel_rfl) (by kernel_rfl) (fun _ _ _ h => h) (Or.inl ⟨by rfl, ?_⟩) (by assumption) ?_
        rotate_left
        · intro w hSw
          try dsimp only at hSw
          go_simp
          try with_reducible rfl
        try simp only [Act.put, List.setIfInBounds_toArray, List.set_cons_zero, List.set_cons_succ]
        refine wpAnyH_ready (rs := [5]) (by kernel_rfl) (by simp) ?_
        refine AllReadyH.cons (o := { dst := some 15, op := Op.call { callee := Callee.value (Operand.func 47), args := #[Operand.tmp 14], argTypes := #[58] }, type := 3, pos := "ref.go:217", after := #[{ on := 4, ground := Ground.data }, { on := 3, ground := Ground.chain }, { on := 3, ground := Ground.guard }], guard := some (3, false) }) rfl (fun K hK => ?_) ?_
        rotate_left
        · exact AllReadyH.nil
        go_simp
        go_at_call 47
        refine (refcheck8_any _ F _ (by have := HF9.out; omega) (HDL.out.sl.later (by repeat (first | with_reducible exact HB3.out | with_reducible exact Below.refl _ _ | with_reducible refine blAlloc ?_ _ | with_reducible refine Below.drew ?_))) HNM.out).mono ?_
        rintro e w4 ⟨rfl, h5⟩
        rw [HT2.out]
        have HB4 : Hid (Below w2.heap.size w2 w4) := blThen (by repeat (first | with_reducible exact HB3.out | with_reducible exact Below.refl _ _ | with_reducible refine blAlloc ?_ _ | with_reducible refine Below.drew ?_)) h5
        clear h5
        refine hK.out _ _ (HK.out _ HB4.out) (fun hHeld => ?_)
        clear hK K
        try simp only [Act.put, List.setIfInBounds_toArray, List.set_cons_zero, List.set_cons_succ]
        refine wpAnyH_take (i := 6) (oi := { dst := some 16, op := Op.binOp BinOp.neq 3 (Operand.tmp 15) (Operand.const (Value.int IntKind.i64 0)) 3, type := 4, pos := "ref.go:217", after := #[{ on := 5, ground := Ground.data }, { on := 3, ground := Ground.guard }], guard := some (3, false) }) (v := ?_) rfl (by kernel_rfl) (by kernel_rfl) (by kernel_rfl) (fun _ _ _ h => h) (Or.inl ⟨by rfl, ?_⟩) (by assumption) ?_
        rotate_left
        · intro w hSw
          try dsimp only at hSw
          go_simp
          try with_reducible rfl
        try simp only [Act.put, List.setIfInBounds_toArray, List.set_cons_zero, List.set_cons_succ]
        refine wpAnyH_take (i := 7) (oi := { dst := some 17, op := Op.pick (Operand.tmp 13) (Operand.const (Value.bool true)) (Operand.tmp 16), type := 4, pos := "ref.go:217", after := #[{ on := 3, ground := Ground.data }, { on := 6, ground := Ground.data }], guard := none }) (v := ?_) rfl (by kernel_rfl) (by kernel_rfl) (by kernel_rfl) (fun _ _ _ h => h) (Or.inl ⟨by rfl, ?_⟩) (by assumption) ?_
        rotate_left
        · intro w hSw
          try dsimp only at hSw
          go_simp
          try with_reducible rfl
        try simp only [Act.put, List.setIfInBounds_toArray, List.set_cons_zero, List.set_cons_succ]
        refine wpAnyH_take (i := 8) (oi := { dst := some 18, op := Op.move (Operand.tmp 17), type := 4, pos := "ref.go:217", after := #[{ on := 7, ground := Ground.data }, { on := 5, ground := Ground.chain }], guard := none }) (v := ?_) rfl (by kernel_rfl) (by kernel_rfl) (by kernel_rfl) (fun _ _ _ h => h) (Or.inl ⟨by rfl, ?_⟩) (by assumption) ?_
        rotate_left
        · intro w hSw
          try dsimp only at hSw
          go_simp
          try with_reducible rfl
        try simp only [Act.put, List.setIfInBounds_toArray, List.set_cons_zero, List.set_cons_succ]
        refine wpAnyH_take (i := 9) (oi := { dst := some 19, op := Op.move (Operand.tmp 5), type := 58, pos := "ref.go:217", after := #[{ on := 8, ground := Ground.guard }], guard := some (8, false) }) (v := ?_) rfl (by kernel_rfl) (by kernel_rfl) (by kernel_rfl) (fun _ _ _ h => h) (Or.inl ⟨by rfl, ?_⟩) (by assumption) ?_
        rotate_left
        · intro w hSw
          try dsimp only at hSw
          go_simp
          try with_reducible rfl
        try simp only [Act.put, List.setIfInBounds_toArray, List.set_cons_zero, List.set_cons_succ]
        refine wpAnyH_take (i := 12) (oi := { dst := some 22, op := Op.move (Operand.tmp 0), type := 23, pos := "ref.go:217", after := #[{ on := 8, ground := Ground.guard }], guard := some (8, false) }) (v := ?_) rfl (by kernel_rfl) (by kernel_rfl) (by kernel_rfl) (fun _ _ _ h => h) (Or.inl ⟨by rfl, ?_⟩) (by assumption) ?_
        rotate_left
        · intro w hSw
          try dsimp only at hSw
          go_simp
          try with_reducible rfl
        try simp only [Act.put, List.setIfInBounds_toArray, List.set_cons_zero, List.set_cons_succ]
        refine wpAnyH_take (i := 13) (oi := { dst := some 23, op := Op.convert 23 9 (Operand.tmp 22), type := 9, pos := "ref.go:217", after := #[{ on := 12, ground := Ground.data }, { on := 8, ground := Ground.guard }], guard := some (8, false) }) (v := ?_) rfl (by kernel_rfl) (by kernel_rfl) (by kernel_rfl) (fun _ _ _ h => h) (Or.inl ⟨by rfl, ?_⟩) (by assumption) ?_
        rotate_left
        · intro w hSw
          try dsimp only at hSw
          go_simp
          try with_reducible rfl
        try simp only [Act.put, List.setIfInBounds_toArray, List.set_cons_zero, List.set_cons_succ]
        refine wpAnyH_ready (rs := [10]) (by kernel_rfl) (by simp) ?_
        refine AllReadyH.cons (o := { dst := some 20, op := Op.call { callee := Callee.value (Operand.func 50), args := #[Operand.const (Value.slice none 0 0), Operand.tmp 19], argTypes := #[23, 58] }, type := 23, pos := "ref.go:217", after := #[{ on := 9, ground := Ground.data }, { on := 8, ground := Ground.chain }, { on := 8, ground := Ground.guard }], guard := some (8, false) }) rfl (fun K hK => ?_) ?_
        rotate_left
        · exact AllReadyH.nil
        go_simp
        go_at_call 50
        refine (rlay8_any none (.slice none 0 0) _ [] F w2 _ (by have := HF9.out; omega) HKS.out (S2.Row.nil _) HDL.out.sl (by repeat (first | with_reducible exact HB4.out | with_reducible exact HB3.out | with_reducible exact Below.refl _ _ | with_reducible refine blAlloc ?_ _ | with_reducible refine Below.drew ?_)) (fun k h => by cases h) (by simp)).mono ?_
        rintro e w5 ⟨v5, g5, rfl, h1, h2⟩
        rw [List.nil_append, HT3.out] at h1
        obtain ⟨p5, n5, q5, rfl⟩ := h1.form
        have hs5 := bw_str h1.bs.bw
        have HB5 : Hid (Below w2.heap.size w2 w5) := blThen (by repeat (first | with_reducible exact HB4.out | with_reducible exact HB3.out | with_reducible exact Below.refl _ _ | with_reducible refine blAlloc ?_ _ | with_reducible refine Below.drew ?_)) (S2.RowStep.below h2 (Nat.le_refl _) (fun k e => by cases e))
        clear h1 h2
        refine hK.out _ _ (HK.out _ HB5.out) (fun hHeld => ?_)
        clear hK K
        try simp only [Act.put, List.setIfInBounds_toArray, List.set_cons_zero, List.set_cons_succ]
        refine wpAnyH_ready (rs := [11]) (by kernel_rfl) (by simp) ?_
        refine AllReadyH.cons (o := { dst := some 21, op := Op.convert 23 9 (Operand.tmp 20), type := 9, pos := "ref.go:217", after := #[{ on := 10, ground := Ground.data }, { on := 8, ground := Ground.guard }], guard := some (8, false) }) rfl (fun K hK => ?_) ?_
        rotate_left
        · exact AllReadyH.nil
        go_simp
        refine hK.out _ _ (HK.out _ HB5.out) (fun hHeld => ?_)
        clear hK K
        try simp only [Act.put, List.setIfInBounds_toArray, List.set_cons_zero, List.set_cons_succ]
        refine wpAnyH_take (i := 14) (oi := { dst := some 24, op := Op.binOp BinOp.neq 9 (Operand.tmp 21) (Operand.tmp 23) 9, type := 4, pos := "ref.go:217", after := #[{ on := 11, ground := Ground.data }, { on := 13, ground := Ground.data }, { on := 8, ground := Ground.guard }], guard := some (8, false) }) (v := ?_) rfl (by kernel_rfl) (by kernel_rfl) (by kernel_rfl) (fun _ _ _ h => h) (Or.inl ⟨by rfl, ?_⟩) (by assumption) ?_
        rotate_left
        · intro w hSw
          try dsimp only at hSw
          go_simp
          try with_reducible rfl
        try simp only [Act.put, List.setIfInBounds_toArray, List.set_cons_zero, List.set_cons_succ]
        refine wpAnyH_take (i := 15) (oi := { dst := some 25, op := Op.pick (Operand.tmp 18) (Operand.const (Value.bool true)) (Operand.tmp 24), type := 4, pos := "ref.go:217", after := #[{ on := 8, ground := Ground.data }, { on := 14, ground := Ground.data }], guard := none }) (v := ?_) rfl (by kernel_rfl) (by kernel_rfl) (by kernel_rfl) (fun _ _ _ h => h) (Or.inl ⟨by rfl, ?_⟩) (by assumption) ?_
        rotate_left
        · intro w hSw
          try dsimp only at hSw
          go_simp
          try with_reducible rfl
        try simp only [Act.put, List.setIfInBounds_toArray, List.set_cons_zero, List.set_cons_succ]
        refine wpAnyH_done (by kernel_rfl) ?_ _
        go_wp2
        go_ret2
        exact ⟨_, by rw [HOK.out]; rfl, by rw [HOK.out]; exact HDL.out.later HB5.out, blThen HB2.out HB5.out⟩
      · have HNO := Lib.hid (HFAIL.out fun h => t3 h.2.2)
        have HT1 := Lib.hid t1
        have HT2 := Lib.hid t2
        have hne : (layP F == B) = false := by simpa using t3
        clear t1 t2 t3
        go_wp2_with fail
        refine wp_region_held_drew (S := (fun Y => (convert 23 9 (.slice a n c)).run Tryz.prog Y = .ok (.string ⟨B.toArray⟩) Y)) (by kernel_rfl) (HK.out _ (Below.refl w2.heap.size w2).drew) (fun hHeld => ?_)
        refine wpAnyH_take (i := 0) (oi := { dst := some 10, op := Op.move (Operand.tmp 4), type := 141, pos := "ref.go:217", after := #[], guard := none }) (v := ?_) rfl (by kernel_rfl) (by kernel_rfl) (by kernel_rfl) (fun _ _ _ h => h) (Or.inl ⟨by rfl, ?_⟩) (by assumption) ?_
        rotate_left
        · intro w hSw
          try dsimp only at hSw
          go_simp
          try with_reducible rfl
        try simp only [Act.put, List.setIfInBounds_toArray, List.set_cons_zero, List.set_cons_succ]
        refine wpAnyH_ready (rs := [1]) (by kernel_rfl) (by simp) ?_
        refine AllReadyH.cons (o := { dst := some 11, op := Op.call { callee := Callee.value (Operand.func 100), args := #[Operand.tmp 10], argTypes := #[141] }, type := 3, pos := "ref.go:217", after := #[{ on := 0, ground := Ground.data }], guard := none }) rfl (fun K hK => ?_) ?_
        rotate_left
        · exact AllReadyH.nil
        go_simp
        go_at_call 100
        refine (S2.rDone_any _ b g B i bb (HE2.out.before (S2.Keeps.drew _ _))).mono ?_
        rintro e w3 ⟨rfl, h5⟩
        rw [HT1.out]
        have HB3 : Hid (Below w2.heap.size w2 w3) := blThen (by repeat (first | with_reducible exact Below.refl _ _ | with_reducible refine blAlloc ?_ _ | with_reducible refine Below.drew ?_)) h5
        clear h5
        refine hK.out _ _ (HK.out _ HB3.out) (fun hHeld => ?_)
        clear hK K
        try simp only [Act.put, List.setIfInBounds_toArray, List.set_cons_zero, List.set_cons_succ]
        refine wpAnyH_take (i := 2) (oi := { dst := some 12, op := Op.binOp BinOp.neq 3 (Operand.tmp 11) (Operand.const (Value.int IntKind.i64 0)) 3, type := 4, pos := "ref.go:217", after := #[{ on := 1, ground := Ground.data }], guard := none }) (v := ?_) rfl (by kernel_rfl) (by kernel_rfl) (by kernel_rfl) (fun _ _ _ h => h) (Or.inl ⟨by rfl, ?_⟩) (by assumption) ?_
        rotate_left
        · intro w hSw
          try dsimp only at hSw
          go_simp
          try with_reducible rfl
        try simp only [Act.put, List.setIfInBounds_toArray, List.set_cons_zero, List.set_cons_succ]
        refine wpAnyH_take (i := 3) (oi := { dst := some 13, op := Op.move (Operand.tmp 12), type := 4, pos := "ref.go:217", after := #[{ on := 2, ground := Ground.data }, { on := 1, ground := Ground.chain }], guard := none }) (v := ?_) rfl (by kernel_rfl) (by kernel_rfl) (by kernel_rfl) (fun _ _ _ h => h) (Or.inl ⟨by rfl, ?_⟩) (by assumption) ?_
        rotate_left
        · intro w hSw
          try dsimp only at hSw
          go_simp
          try with_reducible rfl
        try simp only [Act.put, List.setIfInBounds_toArray, List.set_cons_zero, List.set_cons_succ]
        refine wpAnyH_take (i := 4) (oi := { dst := some 14, op := Op.move (Operand.tmp 5), type := 58, pos := "ref.go:217", after := #[{ on := 3, ground := Ground.guard }], guard := some (3, false) }) (v := ?_) rfl (by kernel_rfl) (by kernel_rfl) (by kernel_rfl) (fun _ _ _ h => h) (Or.inl ⟨by rfl, ?_⟩) (by assumption) ?_
        rotate_left
        · intro w hSw
          try dsimp only at hSw
          go_simp
          try with_reducible rfl
        try simp only [Act.put, List.setIfInBounds_toArray, List.set_cons_zero, List.set_cons_succ]
        refine wpAnyH_ready (rs := [5]) (by kernel_rfl) (by simp) ?_
        refine AllReadyH.cons (o := { dst := some 15, op := Op.call { callee := Callee.value (Operand.func 47), args := #[Operand.tmp 14], argTypes := #[58] }, type := 3, pos := "ref.go:217", after := #[{ on := 4, ground := Ground.data }, { on := 3, ground := Ground.chain }, { on := 3, ground := Ground.guard }], guard := some (3, false) }) rfl (fun K hK => ?_) ?_
        rotate_left
        · exact AllReadyH.nil
        go_simp
        go_at_call 47
        refine (refcheck8_any _ F _ (by have := HF9.out; omega) (HDL.out.sl.later (by repeat (first | with_reducible exact HB3.out | with_reducible exact Below.refl _ _ | with_reducible refine blAlloc ?_ _ | with_reducible refine Below.drew ?_))) HNM.out).mono ?_
        rintro e w4 ⟨rfl, h5⟩
        rw [HT2.out]
        have HB4 : Hid (Below w2.heap.size w2 w4) := blThen (by repeat (first | with_reducible exact HB3.out | with_reducible exact Below.refl _ _ | with_reducible refine blAlloc ?_ _ | with_reducible refine Below.drew ?_)) h5
        clear h5
        refine hK.out _ _ (HK.out _ HB4.out) (fun hHeld => ?_)
        clear hK K
        try simp only [Act.put, List.setIfInBounds_toArray, List.set_cons_zero, List.set_cons_succ]
        refine wpAnyH_take (i := 6) (oi := { dst := some 16, op := Op.binOp BinOp.neq 3 (Operand.tmp 15) (Operand.const (Value.int IntKind.i64 0)) 3, type := 4, pos := "ref.go:217", after := #[{ on := 5, ground := Ground.data }, { on := 3, ground := Ground.guard }], guard := some (3, false) }) (v := ?_) rfl (by kernel_rfl) (by kernel_rfl) (by kernel_rfl) (fun _ _ _ h => h) (Or.inl ⟨by rfl, ?_⟩) (by assumption) ?_
        rotate_left
        · intro w hSw
          try dsimp only at hSw
          go_simp
          try with_reducible rfl
        try simp only [Act.put, List.setIfInBounds_toArray, List.set_cons_zero, List.set_cons_succ]
        refine wpAnyH_take (i := 7) (oi := { dst := some 17, op := Op.pick (Operand.tmp 13) (Operand.const (Value.bool true)) (Operand.tmp 16), type := 4, pos := "ref.go:217", after := #[{ on := 3, ground := Ground.data }, { on := 6, ground := Ground.data }], guard := none }) (v := ?_) rfl (by kernel_rfl) (by kernel_rfl) (by kernel_rfl) (fun _ _ _ h => h) (Or.inl ⟨by rfl, ?_⟩) (by assumption) ?_
        rotate_left
        · intro w hSw
          try dsimp only at hSw
          go_simp
          try with_reducible rfl
        try simp only [Act.put, List.setIfInBounds_toArray, List.set_cons_zero, List.set_cons_succ]
        refine wpAnyH_take (i := 8) (oi := { dst := some 18, op := Op.move (Operand.tmp 17), type := 4, pos := "ref.go:217", after := #[{ on := 7, ground := Ground.data }, { on := 5, ground := Ground.chain }], guard := none }) (v := ?_) rfl (by kernel_rfl) (by kernel_rfl) (by kernel_rfl) (fun _ _ _ h => h) (Or.inl ⟨by rfl, ?_⟩) (by assumption) ?_
        rotate_left
        · intro w hSw
          try dsimp only at hSw
          go_simp
          try with_reducible rfl
        try simp only [Act.put, List.setIfInBounds_toArray, List.set_cons_zero, List.set_cons_succ]
        refine wpAnyH_take (i := 9) (oi := { dst := some 19, op := Op.move (Operand.tmp 5), type := 58, pos := "ref.go:217", after := #[{ on := 8, ground := Ground.guard }], guard := some (8, false) }) (v := ?_) rfl (by kernel_rfl) (by kernel_rfl) (by kernel_rfl) (fun _ _ _ h => h) (Or.inl ⟨by rfl, ?_⟩) (by assumption) ?_
        rotate_left
        · intro w hSw
          try dsimp only at hSw
          go_simp
          try with_reducible rfl
        try simp only [Act.put, List.setIfInBounds_toArray, List.set_cons_zero, List.set_cons_succ]
        refine wpAnyH_take (i := 12) (oi := { dst := some 22, op := Op.move (Operand.tmp 0), type := 23, pos := "ref.go:217", after := #[{ on := 8, ground := Ground.guard }], guard := some (8, false) }) (v := ?_) rfl (by kernel_rfl) (by kernel_rfl) (by kernel_rfl) (fun _ _ _ h => h) (Or.inl ⟨by rfl, ?_⟩) (by assumption) ?_
        rotate_left
        · intro w hSw
          try dsimp only at hSw
          go_simp
          try with_reducible rfl
        try simp only [Act.put, List.setIfInBounds_toArray, List.set_cons_zero, List.set_cons_succ]
        refine wpAnyH_take (i := 13) (oi := { dst := some 23, op := Op.convert 23 9 (Operand.tmp 22), type := 9, pos := "ref.go:217", after := #[{ on := 12, ground := Ground.data }, { on := 8, ground := Ground.guard }], guard := some (8, false) }) (v := ?_) rfl (by kernel_rfl) (by kernel_rfl) (by kernel_rfl) (fun _ _ _ h => h) (Or.inl ⟨by rfl, ?_⟩) (by assumption) ?_
        rotate_left
        · intro w hSw
          try dsimp only at hSw
          go_simp
          try with_reducible rfl
        try simp only [Act.put, List.setIfInBounds_toArray, List.set_cons_zero, List.set_cons_succ]
        refine wpAnyH_ready (rs := [10]) (by kernel_rfl) (by simp) ?_
        refine AllReadyH.cons (o := { dst := some 20, op := Op.call { callee := Callee.value (Operand.func 50), args := #[Operand.const (Value.slice none 0 0), Operand.tmp 19], argTypes := #[23, 58] }, type := 23, pos := "ref.go:217", after := #[{ on := 9, ground := Ground.data }, { on := 8, ground := Ground.chain }, { on := 8, ground := Ground.guard }], guard := some (8, false) }) rfl (fun K hK => ?_) ?_
        rotate_left
        · exact AllReadyH.nil
        go_simp
        go_at_call 50
        refine (rlay8_any none (.slice none 0 0) _ [] F w2 _ (by have := HF9.out; omega) HKS.out (S2.Row.nil _) HDL.out.sl (by repeat (first | with_reducible exact HB4.out | with_reducible exact HB3.out | with_reducible exact Below.refl _ _ | with_reducible refine blAlloc ?_ _ | with_reducible refine Below.drew ?_)) (fun k h => by cases h) (by simp)).mono ?_
        rintro e w5 ⟨v5, g5, rfl, h1, h2⟩
        rw [List.nil_append] at h1
        obtain ⟨p5, n5, q5, rfl⟩ := h1.form
        have hs5 := bw_str h1.bs.bw
        have HB5 : Hid (Below w2.heap.size w2 w5) := blThen (by repeat (first | with_reducible exact HB4.out | with_reducible exact HB3.out | with_reducible exact Below.refl _ _ | with_reducible refine blAlloc ?_ _ | with_reducible refine Below.drew ?_)) (S2.RowStep.below h2 (Nat.le_refl _) (fun k e => by cases e))
        clear h1 h2
        refine hK.out _ _ (HK.out _ HB5.out) (fun hHeld => ?_)
        clear hK K
        try simp only [Act.put, List.setIfInBounds_toArray, List.set_cons_zero, List.set_cons_succ]
        refine wpAnyH_ready (rs := [11]) (by kernel_rfl) (by simp) ?_
        refine AllReadyH.cons (o := { dst := some 21, op := Op.convert 23 9 (Operand.tmp 20), type := 9, pos := "ref.go:217", after := #[{ on := 10, ground := Ground.data }, { on := 8, ground := Ground.guard }], guard := some (8, false) }) rfl (fun K hK => ?_) ?_
        rotate_left
        · exact AllReadyH.nil
        go_simp
        refine hK.out _ _ (HK.out _ HB5.out) (fun hHeld => ?_)
        clear hK K
        try simp only [Act.put, List.setIfInBounds_toArray, List.set_cons_zero, List.set_cons_succ]
        refine wpAnyH_take (i := 14) (oi := { dst := some 24, op := Op.binOp BinOp.neq 9 (Operand.tmp 21) (Operand.tmp 23) 9, type := 4, pos := "ref.go:217", after := #[{ on := 11, ground := Ground.data }, { on := 13, ground := Ground.data }, { on := 8, ground := Ground.guard }], guard := some (8, false) }) (v := ?_) rfl (by kernel_rfl) (by kernel_rfl) (by kernel_rfl) (fun _ _ _ h => h) (Or.inl ⟨by rfl, ?_⟩) (by assumption) ?_
        rotate_left
        · intro w hSw
          try dsimp only at hSw
          go_simp
          try with_reducible rfl
        try simp only [Act.put, List.setIfInBounds_toArray, List.set_cons_zero, List.set_cons_succ]
        refine wpAnyH_take (i := 15) (oi := { dst := some 25, op := Op.pick (Operand.tmp 18) (Operand.const (Value.bool true)) (Operand.tmp 24), type := 4, pos := "ref.go:217", after := #[{ on := 8, ground := Ground.data }, { on := 14, ground := Ground.data }], guard := none }) (v := ?_) rfl (by kernel_rfl) (by kernel_rfl) (by kernel_rfl) (fun _ _ _ h => h) (Or.inl ⟨by rfl, ?_⟩) (by assumption) ?_
        rotate_left
        · intro w hSw
          try dsimp only at hSw
          go_simp
          try with_reducible rfl
        try simp only [Act.put, List.setIfInBounds_toArray, List.set_cons_zero, List.set_cons_succ]
        refine wpAnyH_done (by kernel_rfl) ?_ _
        go_wp2
        go_ret2
        exact retPa_none HNO.out (blThen HB2.out HB5.out)
    · have HNO := Lib.hid (HFAIL.out fun h => t2 h.2.1)
      have HT1 := Lib.hid t1
      have hck : (checkP F == 0) = false := by simpa using t2
      have hck1 : (checkP F != 0) = true := by simpa using t2
      have hck2 : ¬ checkP F = 0 := t2
      generalize hckE : checkP F = ck at *
      clear t1 t2
      go_wp2_with fail
      refine wp_region_held_drew (S := (fun Y => (convert 23 9 (.slice a n c)).run Tryz.prog Y = .ok (.string ⟨B.toArray⟩) Y)) (by kernel_rfl) (HK.out _ (Below.refl w2.heap.size w2).drew) (fun hHeld => ?_)
      refine wpAnyH_take (i := 0) (oi := { dst := some 10, op := Op.move (Operand.tmp 4), type := 141, pos := "ref.go:217", after := #[], guard := none }) (v := ?_) rfl (by kernel_rfl) (by kernel_rfl) (by kernel_rfl) (fun _ _ _ h => h) (Or.inl ⟨by rfl, ?_⟩) (by assumption) ?_
      rotate_left
      · intro w hSw
        try dsimp only at hSw
        go_simp
        try with_reducible rfl
      try simp only [Act.put, List.setIfInBounds_toArray, List.set_cons_zero, List.set_cons_succ]
      refine wpAnyH_ready (rs := [1]) (by kernel_rfl) (by simp) ?_
      refine AllReadyH.cons (o := { dst := some 11, op := Op.call { callee := Callee.value (Operand.func 100), args := #[Operand.tmp 10], argTypes := #[141] }, type := 3, pos := "ref.go:217", after := #[{ on := 0, ground := Ground.data }], guard := none }) rfl (fun K hK => ?_) ?_
      rotate_left
      · exact AllReadyH.nil
      go_simp
      go_at_call 100
      refine (S2.rDone_any _ b g B i bb (HE2.out.before (S2.Keeps.drew _ _))).mono ?_
      rintro e w3 ⟨rfl, h5⟩
      rw [HT1.out]
      have HB3 : Hid (Below w2.heap.size w2 w3) := blThen (by repeat (first | with_reducible exact Below.refl _ _ | with_reducible refine blAlloc ?_ _ | with_reducible refine Below.drew ?_)) h5
      clear h5
      refine hK.out _ _ (HK.out _ HB3.out) (fun hHeld => ?_)
      clear hK K
      try simp only [Act.put, List.setIfInBounds_toArray, List.set_cons_zero, List.set_cons_succ]
      refine wpAnyH_take (i := 2) (oi := { dst := some 12, op := Op.binOp BinOp.neq 3 (Operand.tmp 11) (Operand.const (Value.int IntKind.i64 0)) 3, type := 4, pos := "ref.go:217", after := #[{ on := 1, ground := Ground.data }], guard := none }) (v := ?_) rfl (by kernel_rfl) (by kernel_rfl) (by kernel_rfl) (fun _ _ _ h => h) (Or.inl ⟨by rfl, ?_⟩) (by assumption) ?_
      rotate_left
      · intro w hSw
        try dsimp only at hSw
        go_simp
        try with_reducible rfl
      try simp only [Act.put, List.setIfInBounds_toArray, List.set_cons_zero, List.set_cons_succ]
      refine wpAnyH_take (i := 3) (oi := { dst := some 13, op := Op.move (Operand.tmp 12), type := 4, pos := "ref.go:217", after := #[{ on := 2, ground := Ground.data }, { on := 1, ground := Ground.chain }], guard := none }) (v := ?_) rfl (by kernel_rfl) (by kernel_rfl) (by kernel_rfl) (fun _ _ _ h => h) (Or.inl ⟨by rfl, ?_⟩) (by assumption) ?_
      rotate_left
      · intro w hSw
        try dsimp only at hSw
        go_simp
        try with_reducible rfl
      try simp only [Act.put, List.setIfInBounds_toArray, List.set_cons_zero, List.set_cons_succ]
      refine wpAnyH_take (i := 4) (oi := { dst := some 14, op := Op.move (Operand.tmp 5), type := 58, pos := "ref.go:217", after := #[{ on := 3, ground := Ground.guard }], guard := some (3, false) }) (v := ?_) rfl (by kernel_rfl) (by kernel_rfl) (by kernel_rfl) (fun _ _ _ h => h) (Or.inl ⟨by rfl, ?_⟩) (by assumption) ?_
      rotate_left
      · intro w hSw
        try dsimp only at hSw
        go_simp
        try with_reducible rfl
      try simp only [Act.put, List.setIfInBounds_toArray, List.set_cons_zero, List.set_cons_succ]
      refine wpAnyH_ready (rs := [5]) (by kernel_rfl) (by simp) ?_
      refine AllReadyH.cons (o := { dst := some 15, op := Op.call { callee := Callee.value (Operand.func 47), args := #[Operand.tmp 14], argTypes := #[58] }, type := 3, pos := "ref.go:217", after := #[{ on := 4, ground := Ground.data }, { on := 3, ground := Ground.chain }, { on := 3, ground := Ground.guard }], guard := some (3, false) }) rfl (fun K hK => ?_) ?_
      rotate_left
      · exact AllReadyH.nil
      go_simp
      go_at_call 47
      refine (refcheck8_any _ F _ (by have := HF9.out; omega) (HDL.out.sl.later (by repeat (first | with_reducible exact HB3.out | with_reducible exact Below.refl _ _ | with_reducible refine blAlloc ?_ _ | with_reducible refine Below.drew ?_))) HNM.out).mono ?_
      rintro e w4 ⟨rfl, h5⟩
      rw [hckE]
      have HB4 : Hid (Below w2.heap.size w2 w4) := blThen (by repeat (first | with_reducible exact HB3.out | with_reducible exact Below.refl _ _ | with_reducible refine blAlloc ?_ _ | with_reducible refine Below.drew ?_)) h5
      clear h5
      refine hK.out _ _ (HK.out _ HB4.out) (fun hHeld => ?_)
      clear hK K
      try simp only [Act.put, List.setIfInBounds_toArray, List.set_cons_zero, List.set_cons_succ]
      refine wpAnyH_take (i := 6) (oi := { dst := some 16, op := Op.binOp BinOp.neq 3 (Operand.tmp 15) (Operand.const (Value.int IntKind.i64 0)) 3, type := 4, pos := "ref.go:217", after := #[{ on := 5, ground := Ground.data }, { on := 3, ground := Ground.guard }], guard := some (3, false) }) (v := ?_) rfl (by kernel_rfl) (by kernel_rfl) (by kernel_rfl) (fun _ _ _ h => h) (Or.inl ⟨by rfl, ?_⟩) (by assumption) ?_
      rotate_left
      · intro w hSw
        try dsimp only at hSw
        go_simp
        try with_reducible rfl
      try simp only [Act.put, List.setIfInBounds_toArray, List.set_cons_zero, List.set_cons_succ]
      refine wpAnyH_take (i := 7) (oi := { dst := some 17, op := Op.pick (Operand.tmp 13) (Operand.const (Value.bool true)) (Operand.tmp 16), type := 4, pos := "ref.go:217", after := #[{ on := 3, ground := Ground.data }, { on := 6, ground := Ground.data }], guard := none }) (v := ?_) rfl (by kernel_rfl) (by kernel_rfl) (by kernel_rfl) (fun _ _ _ h => h) (Or.inl ⟨by rfl, ?_⟩) (by assumption) ?_
      rotate_left
      · intro w hSw
        try dsimp only at hSw
        go_simp
        try with_reducible rfl
      try simp only [Act.put, List.setIfInBounds_toArray, List.set_cons_zero, List.set_cons_succ]
      refine wpAnyH_take (i := 8) (oi := { dst := some 18, op := Op.move (Operand.tmp 17), type := 4, pos := "ref.go:217", after := #[{ on := 7, ground := Ground.data }, { on := 5, ground := Ground.chain }], guard := none }) (v := ?_) rfl (by kernel_rfl) (by kernel_rfl) (by kernel_rfl) (fun _ _ _ h => h) (Or.inl ⟨by rfl, ?_⟩) (by assumption) ?_
      rotate_left
      · intro w hSw
        try dsimp only at hSw
        go_simp
        try with_reducible rfl
      try simp only [Act.put, List.setIfInBounds_toArray, List.set_cons_zero, List.set_cons_succ]
      refine wpAnyH_take (i := 9) (oi := { dst := some 19, op := Op.move (Operand.tmp 5), type := 58, pos := "ref.go:217", after := #[{ on := 8, ground := Ground.guard }], guard := some (8, false) }) (v := undef) rfl (by kernel_rfl) (by kernel_rfl) (by kernel_rfl) (fun _ _ _ h => h) (Or.inr ⟨by rfl, rfl⟩) (by assumption) ?_
      try simp only [Act.put, List.setIfInBounds_toArray, List.set_cons_zero, List.set_cons_succ]
      refine wpAnyH_take (i := 12) (oi := { dst := some 22, op := Op.move (Operand.tmp 0), type := 23, pos := "ref.go:217", after := #[{ on := 8, ground := Ground.guard }], guard := some (8, false) }) (v := undef) rfl (by kernel_rfl) (by kernel_rfl) (by kernel_rfl) (fun _ _ _ h => h) (Or.inr ⟨by rfl, rfl⟩) (by assumption) ?_
      try simp only [Act.put, List.setIfInBounds_toArray, List.set_cons_zero, List.set_cons_succ]
      refine wpAnyH_take (i := 13) (oi := { dst := some 23, op := Op.convert 23 9 (Operand.tmp 22), type := 9, pos := "ref.go:217", after := #[{ on := 12, ground := Ground.data }, { on := 8, ground := Ground.guard }], guard := some (8, false) }) (v := undef) rfl (by kernel_rfl) (by kernel_rfl) (by kernel_rfl) (fun _ _ _ h => h) (Or.inr ⟨by rfl, rfl⟩) (by assumption) ?_
      try simp only [Act.put, List.setIfInBounds_toArray, List.set_cons_zero, List.set_cons_succ]
      refine wpAnyH_ready (rs := [10]) (by kernel_rfl) (by simp) ?_
      refine AllReadyH.cons (o := { dst := some 20, op := Op.call { callee := Callee.value (Operand.func 50), args := #[Operand.const (Value.slice none 0 0), Operand.tmp 19], argTypes := #[23, 58] }, type := 23, pos := "ref.go:217", after := #[{ on := 9, ground := Ground.data }, { on := 8, ground := Ground.chain }, { on := 8, ground := Ground.guard }], guard := some (8, false) }) rfl (fun K hK => ?_) ?_
      rotate_left
      · exact AllReadyH.nil
      refine ite_no (by rfl) ?_
      refine hK.out _ _ hHeld (fun hHeld => ?_)
      clear hK K
      try simp only [Act.put, List.setIfInBounds_toArray, List.set_cons_zero, List.set_cons_succ]
      refine wpAnyH_take (i := 11) (oi := { dst := some 21, op := Op.convert 23 9 (Operand.tmp 20), type := 9, pos := "ref.go:217", after := #[{ on := 10, ground := Ground.data }, { on := 8, ground := Ground.guard }], guard := some (8, false) }) (v := undef) rfl (by kernel_rfl) (by kernel_rfl) (by kernel_rfl) (fun _ _ _ h => h) (Or.inr ⟨by rfl, rfl⟩) (by assumption) ?_
      try simp only [Act.put, List.setIfInBounds_toArray, List.set_cons_zero, List.set_cons_succ]
      refine wpAnyH_take (i := 14) (oi := { dst := some 24, op := Op.binOp BinOp.neq 9 (Operand.tmp 21) (Operand.tmp 23) 9, type := 4, pos := "ref.go:217", after := #[{ on := 11, ground := Ground.data }, { on := 13, ground := Ground.data }, { on := 8, ground := Ground.guard }], guard := some (8, false) }) (v := undef) rfl (by kernel_rfl) (by kernel_rfl) (by kernel_rfl) (fun _ _ _ h => h) (Or.inr ⟨by rfl, rfl⟩) (by assumption) ?_
      try simp only [Act.put, List.setIfInBounds_toArray, List.set_cons_zero, List.set_cons_succ]
      refine wpAnyH_take (i := 15) (oi := { dst := some 25, op := Op.pick (Operand.tmp 18) (Operand.const (Value.bool true)) (Operand.tmp 24), type := 4, pos := "ref.go:217", after := #[{ on := 8, ground := Ground.data }, { on := 14, ground := Ground.data }], guard := none }) (v := ?_) rfl (by kernel_rfl) (by kernel_rfl) (by kernel_rfl) (fun _ _ _ h => h) (Or.inl ⟨by rfl, ?_⟩) (by assumption) ?_
      rotate_left
      · intro w hSw
        try dsimp only at hSw
        go_simp
        try with_reducible rfl
      try simp only [Act.put, List.setIfInBounds_toArray, List.set_cons_zero, List.set_cons_succ]
      refine wpAnyH_done (by kernel_rfl) ?_ _
      go_wp2
      go_ret2
      exact retPa_none HNO.out (blThen HB2.out HB4.out)
  · have HNO := Lib.hid (HFAIL.out fun h => t1 h.1)
    have hdn : (S2.doneN (B.drop i) bb == 0) = false := by simpa using t1
    have hdn1 : (S2.doneN (B.drop i) bb != 0) = true := by simpa using t1
    have hdn2 : ¬ S2.doneN (B.drop i) bb = 0 := t1
    generalize hdnE : S2.doneN (B.drop i) bb = dn at *
    clear t1
    go_wp2_with fail
    refine wp_region_held_drew (S := (fun Y => (convert 23 9 (.slice a n c)).run Tryz.prog Y = .ok (.string ⟨B.toArray⟩) Y)) (by kernel_rfl) (HK.out _ (Below.refl w2.heap.size w2).drew) (fun hHeld => ?_)
    refine wpAnyH_take (i := 0) (oi := { dst := some 10, op := Op.move (Operand.tmp 4), type := 141, pos := "ref.go:217", after := #[], guard := none }) (v := ?_) rfl (by kernel_rfl) (by kernel_rfl) (by kernel_rfl) (fun _ _ _ h => h) (Or.inl ⟨by rfl, ?_⟩) (by assumption) ?_
    rotate_left
    · intro w hSw
      try dsimp only at hSw
      go_simp
      try with_reducible rfl
    try simp only [Act.put, List.setIfInBounds_toArray, List.set_cons_zero, List.set_cons_succ]
    refine wpAnyH_ready (rs := [1]) (by kernel_rfl) (by simp) ?_
    refine AllReadyH.cons (o := { dst := some 11, op := Op.call { callee := Callee.value (Operand.func 100), args := #[Operand.tmp 10], argTypes := #[141] }, type := 3, pos := "ref.go:217", after := #[{ on := 0, ground := Ground.data }], guard := none }) rfl (fun K hK => ?_) ?_
    rotate_left
    · exact AllReadyH.nil
    go_simp
    go_at_call 100
    refine (S2.rDone_any _ b g B i bb (HE2.out.before (S2.Keeps.drew _ _))).mono ?_
    rintro e w3 ⟨rfl, h5⟩
    rw [hdnE]
    have HB3 : Hid (Below w2.heap.size w2 w3) := blThen (by repeat (first | with_reducible exact Below.refl _ _ | with_reducible refine blAlloc ?_ _ | with_reducible refine Below.drew ?_)) h5
    clear h5
    refine hK.out _ _ (HK.out _ HB3.out) (fun hHeld => ?_)
    clear hK K
    try simp only [Act.put, List.setIfInBounds_toArray, List.set_cons_zero, List.set_cons_succ]
    refine wpAnyH_take (i := 2) (oi := { dst := some 12, op := Op.binOp BinOp.neq 3 (Operand.tmp 11) (Operand.const (Value.int IntKind.i64 0)) 3, type := 4, pos := "ref.go:217", after := #[{ on := 1, ground := Ground.data }], guard := none }) (v := ?_) rfl (by kernel_rfl) (by kernel_rfl) (by kernel_rfl) (fun _ _ _ h => h) (Or.inl ⟨by rfl, ?_⟩) (by assumption) ?_
    rotate_left
    · intro w hSw
      try dsimp only at hSw
      go_simp
      try with_reducible rfl
    try simp only [Act.put, List.setIfInBounds_toArray, List.set_cons_zero, List.set_cons_succ]
    refine wpAnyH_take (i := 3) (oi := { dst := some 13, op := Op.move (Operand.tmp 12), type := 4, pos := "ref.go:217", after := #[{ on := 2, ground := Ground.data }, { on := 1, ground := Ground.chain }], guard := none }) (v := ?_) rfl (by kernel_rfl) (by kernel_rfl) (by kernel_rfl) (fun _ _ _ h => h) (Or.inl ⟨by rfl, ?_⟩) (by assumption) ?_
    rotate_left
    · intro w hSw
      try dsimp only at hSw
      go_simp
      try with_reducible rfl
    try simp only [Act.put, List.setIfInBounds_toArray, List.set_cons_zero, List.set_cons_succ]
    refine wpAnyH_take (i := 4) (oi := { dst := some 14, op := Op.move (Operand.tmp 5), type := 58, pos := "ref.go:217", after := #[{ on := 3, ground := Ground.guard }], guard := some (3, false) }) (v := undef) rfl (by kernel_rfl) (by kernel_rfl) (by kernel_rfl) (fun _ _ _ h => h) (Or.inr ⟨by rfl, rfl⟩) (by assumption) ?_
    try simp only [Act.put, List.setIfInBounds_toArray, List.set_cons_zero, List.set_cons_succ]
    refine wpAnyH_ready (rs := [5]) (by kernel_rfl) (by simp) ?_
    refine AllReadyH.cons (o := { dst := some 15, op := Op.call { callee := Callee.value (Operand.func 47), args := #[Operand.tmp 14], argTypes := #[58] }, type := 3, pos := "ref.go:217", after := #[{ on := 4, ground := Ground.data }, { on := 3, ground := Ground.chain }, { on := 3, ground := Ground.guard }], guard := some (3, false) }) rfl (fun K hK => ?_) ?_
    rotate_left
    · exact AllReadyH.nil
    refine ite_no (by rfl) ?_
    refine hK.out _ _ hHeld (fun hHeld => ?_)
    clear hK K
    try simp only [Act.put, List.setIfInBounds_toArray, List.set_cons_zero, List.set_cons_succ]
    refine wpAnyH_take (i := 6) (oi := { dst := some 16, op := Op.binOp BinOp.neq 3 (Operand.tmp 15) (Operand.const (Value.int IntKind.i64 0)) 3, type := 4, pos := "ref.go:217", after := #[{ on := 5, ground := Ground.data }, { on := 3, ground := Ground.guard }], guard := some (3, false) }) (v := undef) rfl (by kernel_rfl) (by kernel_rfl) (by kernel_rfl) (fun _ _ _ h => h) (Or.inr ⟨by rfl, rfl⟩) (by assumption) ?_
    try simp only [Act.put, List.setIfInBounds_toArray, List.set_cons_zero, List.set_cons_succ]
    refine wpAnyH_take (i := 7) (oi := { dst := some 17, op := Op.pick (Operand.tmp 13) (Operand.const (Value.bool true)) (Operand.tmp 16), type := 4, pos := "ref.go:217", after := #[{ on := 3, ground := Ground.data }, { on := 6, ground := Ground.data }], guard := none }) (v := ?_) rfl (by kernel_rfl) (by kernel_rfl) (by kernel_rfl) (fun _ _ _ h => h) (Or.inl ⟨by rfl, ?_⟩) (by assumption) ?_
    rotate_left
    · intro w hSw
      try dsimp only at hSw
      go_simp
      try with_reducible rfl
    try simp only [Act.put, List.setIfInBounds_toArray, List.set_cons_zero, List.set_cons_succ]
    refine wpAnyH_take (i := 8) (oi := { dst := some 18, op := Op.move (Operand.tmp 17), type := 4, pos := "ref.go:217", after := #[{ on := 7, ground := Ground.data }, { on := 5, ground := Ground.chain }], guard := none }) (v := ?_) rfl (by kernel_rfl) (by kernel_rfl) (by kernel_rfl) (fun _ _ _ h => h) (Or.inl ⟨by rfl, ?_⟩) (by assumption) ?_
    rotate_left
    · intro w hSw
      try dsimp only at hSw
      go_simp
      try with_reducible rfl
    try simp only [Act.put, List.setIfInBounds_toArray, List.set_cons_zero, List.set_cons_succ]
    refine wpAnyH_take (i := 9) (oi := { dst := some 19, op := Op.move (Operand.tmp 5), type := 58, pos := "ref.go:217", after := #[{ on := 8, ground := Ground.guard }], guard := some (8, false) }) (v := undef) rfl (by kernel_rfl) (by kernel_rfl) (by kernel_rfl) (fun _ _ _ h => h) (Or.inr ⟨by rfl, rfl⟩) (by assumption) ?_
    try simp only [Act.put, List.setIfInBounds_toArray, List.set_cons_zero, List.set_cons_succ]
    refine wpAnyH_take (i := 12) (oi := { dst := some 22, op := Op.move (Operand.tmp 0), type := 23, pos := "ref.go:217", after := #[{ on := 8, ground := Ground.guard }], guard := some (8, false) }) (v := undef) rfl (by kernel_rfl) (by kernel_rfl) (by kernel_rfl) (fun _ _ _ h => h) (Or.inr ⟨by rfl, rfl⟩) (by assumption) ?_
    try simp only [Act.put, List.setIfInBounds_toArray, List.set_cons_zero, List.set_cons_succ]
    refine wpAnyH_take (i := 13) (oi := { dst := some 23, op := Op.convert 23 9 (Operand.tmp 22), type := 9, pos := "ref.go:217", after := #[{ on := 12, ground := Ground.data }, { on := 8, ground := Ground.guard }], guard := some (8, false) }) (v := undef) rfl (by kernel_rfl) (by kernel_rfl) (by kernel_rfl) (fun _ _ _ h => h) (Or.inr ⟨by rfl, rfl⟩) (by assumption) ?_
    try simp only [Act.put, List.setIfInBounds_toArray, List.set_cons_zero, List.set_cons_succ]
    refine wpAnyH_ready (rs := [10]) (by kernel_rfl) (by simp) ?_
    refine AllReadyH.cons (o := { dst := some 20, op := Op.call { callee := Callee.value (Operand.func 50), args := #[Operand.const (Value.slice none 0 0), Operand.tmp 19], argTypes := #[23, 58] }, type := 23, pos := "ref.go:217", after := #[{ on := 9, ground := Ground.data }, { on := 8, ground := Ground.chain }, { on := 8, ground := Ground.guard }], guard := some (8, false) }) rfl (fun K hK => ?_) ?_
    rotate_left
    · exact AllReadyH.nil
    refine ite_no (by rfl) ?_
    refine hK.out _ _ hHeld (fun hHeld => ?_)
    clear hK K
    try simp only [Act.put, List.setIfInBounds_toArray, List.set_cons_zero, List.set_cons_succ]
    refine wpAnyH_take (i := 11) (oi := { dst := some 21, op := Op.convert 23 9 (Operand.tmp 20), type := 9, pos := "ref.go:217", after := #[{ on := 10, ground := Ground.data }, { on := 8, ground := Ground.guard }], guard := some (8, false) }) (v := undef) rfl (by kernel_rfl) (by kernel_rfl) (by kernel_rfl) (fun _ _ _ h => h) (Or.inr ⟨by rfl, rfl⟩) (by assumption) ?_
    try simp only [Act.put, List.setIfInBounds_toArray, List.set_cons_zero, List.set_cons_succ]
    refine wpAnyH_take (i := 14) (oi := { dst := some 24, op := Op.binOp BinOp.neq 9 (Operand.tmp 21) (Operand.tmp 23) 9, type := 4, pos := "ref.go:217", after := #[{ on := 11, ground := Ground.data }, { on := 13, ground := Ground.data }, { on := 8, ground := Ground.guard }], guard := some (8, false) }) (v := undef) rfl (by kernel_rfl) (by kernel_rfl) (by kernel_rfl) (fun _ _ _ h => h) (Or.inr ⟨by rfl, rfl⟩) (by assumption) ?_
    try simp only [Act.put, List.setIfInBounds_toArray, List.set_cons_zero, List.set_cons_succ]
    refine wpAnyH_take (i := 15) (oi := { dst := some 25, op := Op.pick (Operand.tmp 18) (Operand.const (Value.bool true)) (Operand.tmp 24), type := 4, pos := "ref.go:217", after := #[{ on := 8, ground := Ground.data }, { on := 14, ground := Ground.data }], guard := none }) (v := ?_) rfl (by kernel_rfl) (by kernel_rfl) (by kernel_rfl) (fun _ _ _ h => h) (Or.inl ⟨by rfl, ?_⟩) (by assumption) ?_
    rotate_left
    · intro w hSw
      try dsimp only at hSw
      go_simp
      try with_reducible rfl
    try simp only [Act.put, List.setIfInBounds_toArray, List.set_cons_zero, List.set_cons_succ]
    refine wpAnyH_done (by kernel_rfl) ?_ _
    go_wp2
    go_ret2
    exact retPa_none HNO.out (blThen HB2.out HB3.out)

end SP
end Go.Proofs.YtjlkgbejldcklaaGreat

/- TxnChecks: whatever the ops and the bytes, the law returns true: whether they may be, their bytes, and every bytes as a transaction, are what the document says. Conditions: none. -/
set_option linter.unusedVariables false
set_option linter.unusedSimpArgs false
namespace Go.Proofs.YtjlkgbejldcklaaGreat
open S3 SN
namespace SP
open Go.ChangeShapes Go.WideShapes Go.ChangeAt Go.RowKit Go.Joins Go.Deep

theorem below_app9 {w x y : World} {g : Option Nat} (h : Below w.heap.size w x) (k : x.grownBy y g) (hg : ∀ b, g = some b → w.heap.size ≤ b) : Below w.heap.size w y := h.grown k h.size hg
theorem parse_few {B : List UInt8} (h : B.length ≤ 100000) : ((parseP B).getD []).length ≤ 1000000 := by
  cases hp : parseP B with
  | none => exact Nat.zero_le _
  | some d =>
    have := (check_kd (parseK_some cOs_ok hp).2).1
    show d.length ≤ _
    omega
theorem parse_laid {l : List Opr} (h : checkP l = 0) (hn : ∀ o ∈ l, o.2.2.2 < 18446744073709551616) : parseP (layP l) = some l := by
  have := parseK_front cOs_ok (check := checkP) (good8 h hn).1 h []
  rw [List.append_nil, if_pos rfl, cOs_lay] at this
  exact this
theorem layP_few {l : List Opr} (h : checkP l = 0) : (layP l).length ≤ 100000 := by
  obtain ⟨h8, _, hok⟩ := check_kd h
  have h1 := layO_len_le l (fun o ho => ok_sizes (hok o ho))
  unfold layP
  rw [List.length_append, S2.i8_length]
  omega
set_option maxRecDepth 100000 in
set_option maxHeartbeats 16000000 in
theorem txnChecks_walk (vl : Value) (l : List Opr) (ab : Option Addr) (cb : Nat) (B : List UInt8) (g0 : Nat) (w : World) (hml : l.length ≤ 9223372036854775807) (hrl : ∀ o ∈ l, o.2.1.size ≤ 140737488355328 ∧ o.2.2.1.size ≤ 140737488355328) (hnl : ∀ o ∈ l, o.2.2.2 < 18446744073709551616) (hl : SlG eO w vl l) (hb : S2.Bw w g0 (.slice ab B.length cb) B) :
    Calls Tryz.prog 5 #[vl, .slice ab B.length cb] w fun e w' => e = .returned (.bool true) ∧ Below w.heap.size w w' := by
  have hbm : B.length ≤ 9223372036854775807 := by obtain ⟨_, _, _, _, h, _⟩ := hb; exact h
  have HBW := Lib.hid hb
  clear hb
  have Ml := Lib.hid hml
  have Rl := Lib.hid hrl
  have Nl := Lib.hid hnl
  have Al := Lib.hid hl
  clear hml hrl hnl hl
  go_enter Tryz.func5, Tryz.ntmps5
  cases hc1 : smallB l []
  · have HC1 := Lib.hid hc1
    clear hc1
    go_wp2_with fail
    have h9 := small8_any vl (.slice none 0 0) l [] w Ml.out (by decide) Rl.out (fun o ho => by cases ho) Al.out (SlG.nil _)
    rw [HC1.out] at h9
    refine (h9).mono ?_
    rintro e w1 ⟨rfl, h5⟩
    have HX : Hid (Below w.heap.size w w1) := blThen (by repeat (first | with_reducible exact Below.refl _ _ | with_reducible refine blAlloc ?_ _ | with_reducible refine Below.drew ?_)) h5
    have HB_w1 := Lib.hid (HX.out)
    have Al := Lib.hid (Al.out.later HX.out)
    clear h5 HX h9
    go_wp2_with fail
    refine (live8_any w1).mono ?_
    rintro e w2 ⟨rfl, h5⟩
    have HX : Hid (Below w1.heap.size w1 w2) := blThen (by repeat (first | with_reducible exact Below.refl _ _ | with_reducible refine blAlloc ?_ _ | with_reducible refine Below.drew ?_)) h5
    have HB_w2 := Lib.hid (blThen HB_w1.out HX.out)
    have Al := Lib.hid (Al.out.later HX.out)
    clear h5 HX
    go_wp2
    go_ret
    exact ⟨rfl, HB_w2.out⟩
  · have HC1 := Lib.hid hc1
    have HBL1 := Lib.hid (smallB_len2 hc1)
    clear hc1
    by_cases hb6 : 6000 < B.length
    · have hdb : decide ((6000 : Int) < (B.length : Int)) = true := decide_eq_true (by omega)
      go_wp2_with fail
      have h9 := small8_any vl (.slice none 0 0) l [] w Ml.out (by decide) Rl.out (fun o ho => by cases ho) Al.out (SlG.nil _)
      rw [HC1.out] at h9
      refine (h9).mono ?_
      rintro e w1 ⟨rfl, h5⟩
      have HX : Hid (Below w.heap.size w w1) := blThen (by repeat (first | with_reducible exact Below.refl _ _ | with_reducible refine blAlloc ?_ _ | with_reducible refine Below.drew ?_)) h5
      have HB_w1 := Lib.hid (HX.out)
      have Al := Lib.hid (Al.out.later HX.out)
      clear h5 HX h9
      go_wp2_with fail
      refine (live8_any w1).mono ?_
      rintro e w2 ⟨rfl, h5⟩
      have HX : Hid (Below w1.heap.size w1 w2) := blThen (by repeat (first | with_reducible exact Below.refl _ _ | with_reducible refine blAlloc ?_ _ | with_reducible refine Below.drew ?_)) h5
      have HB_w2 := Lib.hid (blThen HB_w1.out HX.out)
      have Al := Lib.hid (Al.out.later HX.out)
      clear h5 HX
      go_wp2
      go_ret
      exact ⟨rfl, HB_w2.out⟩
    · have hdb : decide ((6000 : Int) < (B.length : Int)) = false := decide_eq_false (by omega)
      have HL1 : Hid (([] : List UInt8).length + B.length ≤ 1099511627776) := by show _ ≤ _; simp; omega
      have HBL : Hid (B.length ≤ 6000) := by show _ ≤ _; omega
      have HPF := Lib.hid (parse_few (B := B) (by have := HBL.out; omega))
      go_wp2_with fail
      have h9 := small8_any vl (.slice none 0 0) l [] w Ml.out (by decide) Rl.out (fun o ho => by cases ho) Al.out (SlG.nil _)
      rw [HC1.out] at h9
      refine (h9).mono ?_
      rintro e w1 ⟨rfl, h5⟩
      have HX : Hid (Below w.heap.size w w1) := blThen (by repeat (first | with_reducible exact Below.refl _ _ | with_reducible refine blAlloc ?_ _ | with_reducible refine Below.drew ?_)) h5
      have HB_w1 := Lib.hid (HX.out)
      have Al := Lib.hid (Al.out.later HX.out)
      clear h5 HX h9
      have HBW := Lib.hid (bw_keep HBW.out HB_w1.out)
      go_wp2_with (at_builtin; go_must (refine S2.wpList_app rfl (.tmp 22) (.tmp 23) 23 rfl rfl rfl (S2.row_empty _) (bw_keep HBW.out (blAlloc (Below.refl _ _) _)).src HL1.out ?_; intro v3 w2 g3 h1 h2 h3; obtain ⟨p3, n3, q3, rfl⟩ := h1.form; have HR3 := Lib.hid h1.bs.bw; have HX : Hid (Below w1.heap.size w1 w2) := below_app9 (blAlloc (Below.refl _ _) _) h2 (fun k e => by cases e; exact Nat.le_refl _); clear h1 h2 h3))
      rw [List.nil_append] at HR3
      have HB_w2 := Lib.hid (blThen HB_w1.out HX.out)
      have Al := Lib.hid (Al.out.later HX.out)
      have HBW := Lib.hid (bw_keep HBW.out HX.out)
      clear HX
      obtain ⟨pe, HPE⟩ : ∃ pe : Int, Hid ((if (parseP B).isSome = true then (0 : Int) else 80) = pe) := ⟨_, rfl⟩
      obtain ⟨pf, HPL⟩ : ∃ pf : List Opr, Hid ((parseP B).getD [] = pf) := ⟨_, rfl⟩
      rw [HPL.out] at HPF
      go_wp2_with fail
      refine (parse8_any _ _ B _ HR3.out (by have := HBL.out; omega)).mono ?_
      rintro e w3 ⟨ux, rfl, h1, h5⟩
      rw [HPE.out]
      rw [HPL.out] at h1
      have HX : Hid (Below w2.heap.size w2 w3) := blThen (by repeat (first | with_reducible exact Below.refl _ _ | with_reducible refine blAlloc ?_ _ | with_reducible refine Below.drew ?_)) h5
      have HB_w3 := Lib.hid (blThen HB_w2.out HX.out)
      have Al := Lib.hid (Al.out.later HX.out)
      have HBW := Lib.hid (bw_keep HBW.out HX.out)
      have HX1 := Lib.hid h1.sl
      clear h5 HX h1
      go_wp2_with fail
      refine (rparse8_any g0 _ _ _ B _ HBW.out (by have := HBL.out; omega)).mono ?_
      rintro e w4 ⟨uy, rfl, h1, h5⟩
      rw [HPE.out]
      rw [HPL.out] at h1
      have HX : Hid (Below w3.heap.size w3 w4) := blThen (by repeat (first | with_reducible exact Below.refl _ _ | with_reducible refine blAlloc ?_ _ | with_reducible refine Below.drew ?_)) h5
      have HB_w4 := Lib.hid (blThen HB_w3.out HX.out)
      have Al := Lib.hid (Al.out.later HX.out)
      have HX1 := Lib.hid (HX1.out.later HX.out)
      have HY1 := Lib.hid h1.sl
      clear HBW
      clear h5 HX h1
      go_wp2_with fail
      refine (ops_any vl l w4 (by have := HBL1.out; omega) Al.out).mono ?_
      rintro e w5 ⟨u1, rfl, h1, h5⟩
      have HX : Hid (Below w4.heap.size w4 w5) := blThen (by repeat (first | with_reducible exact Below.refl _ _ | with_reducible refine blAlloc ?_ _ | with_reducible refine Below.drew ?_)) h5
      have HB_w5 := Lib.hid (blThen HB_w4.out HX.out)
      have Al := Lib.hid (Al.out.later HX.out)
      have HX1 := Lib.hid (HX1.out.later HX.out)
      have HY1 := Lib.hid (HY1.out.later HX.out)
      have HU1 := Lib.hid h1.sl
      clear h5 HX h1
      go_wp2_with fail
      refine (check8_any u1 l w5 (by have := HBL1.out; omega) HU1.out).mono ?_
      rintro e w6 ⟨rfl, h5⟩
      have HX : Hid (Below w5.heap.size w5 w6) := blThen (by repeat (first | with_reducible exact Below.refl _ _ | with_reducible refine blAlloc ?_ _ | with_reducible refine Below.drew ?_)) h5
      have HB_w6 := Lib.hid (blThen HB_w5.out HX.out)
      have Al := Lib.hid (Al.out.later HX.out)
      have HX1 := Lib.hid (HX1.out.later HX.out)
      have HY1 := Lib.hid (HY1.out.later HX.out)
      have HU1 := Lib.hid (HU1.out.later HX.out)
      clear h5 HX
      go_wp2_with fail
      refine (num8_any _ w6).mono ?_
      rintro e wq ⟨rfl, rfl⟩
      go_wp2_with fail
      have h9 := refcheck8_any vl l w6 (by have := HBL1.out; omega) Al.out Nl.out
      refine (h9).mono ?_
      rintro e w7 ⟨rfl, h5⟩
      have HX : Hid (Below w6.heap.size w6 w7) := blThen (by repeat (first | with_reducible exact Below.refl _ _ | with_reducible refine blAlloc ?_ _ | with_reducible refine Below.drew ?_)) h5
      have HB_w7 := Lib.hid (blThen HB_w6.out HX.out)
      have Al := Lib.hid (Al.out.later HX.out)
      have HX1 := Lib.hid (HX1.out.later HX.out)
      have HY1 := Lib.hid (HY1.out.later HX.out)
      have HU1 := Lib.hid (HU1.out.later HX.out)
      clear h5 HX h9
      go_wp2_with fail
      have h9 := opsame_any ux uy pf pf w7 HPF.out HPF.out HX1.out HY1.out
      rw [decide_eq_true (rfl : pf = pf)] at h9
      refine (h9).mono ?_
      rintro e w8 ⟨rfl, h5⟩
      have HX : Hid (Below w7.heap.size w7 w8) := blThen (by repeat (first | with_reducible exact Below.refl _ _ | with_reducible refine blAlloc ?_ _ | with_reducible refine Below.drew ?_)) h5
      have HB_w8 := Lib.hid (blThen HB_w7.out HX.out)
      have Al := Lib.hid (Al.out.later HX.out)
      have HX1 := Lib.hid (HX1.out.later HX.out)
      have HY1 := Lib.hid (HY1.out.later HX.out)
      have HU1 := Lib.hid (HU1.out.later HX.out)
      clear h5 HX h9
      go_wp2_with fail
      refine (num8_any _ w8).mono ?_
      rintro e wq ⟨rfl, rfl⟩
      by_cases hck : checkP l = 0
      · have HCK := Lib.hid hck
        have HKS : Hid (∀ o ∈ l, o.2.1.size ≤ 1000 ∧ o.2.2.1.size ≤ 1000) := fun o ho => ok_sizes ((check_kd hck).2.2 o ho)
        have HPP := Lib.hid (parse_laid hck Nl.out)
        have HLEN := Lib.hid (layP_few hck)
        clear hck
        go_wp2_with fail
        have h9 := refcheck8_any vl l w8 (by have := HBL1.out; omega) Al.out Nl.out
        rw [HCK.out] at h9
        refine (h9).mono ?_
        rintro e w9 ⟨rfl, h5⟩
        have HX : Hid (Below w8.heap.size w8 w9) := blThen (by repeat (first | with_reducible exact Below.refl _ _ | with_reducible refine blAlloc ?_ _ | with_reducible refine Below.drew ?_)) h5
        have HB_w9 := Lib.hid (blThen HB_w8.out HX.out)
        have Al := Lib.hid (Al.out.later HX.out)
        clear h5 HX h9
        go_wp2_with fail
        refine (ops_any vl l w9 (by have := HBL1.out; omega) Al.out).mono ?_
        rintro e w10 ⟨u2, rfl, h1, h5⟩
        have HX : Hid (Below w9.heap.size w9 w10) := blThen (by repeat (first | with_reducible exact Below.refl _ _ | with_reducible refine blAlloc ?_ _ | with_reducible refine Below.drew ?_)) h5
        have HB_w10 := Lib.hid (blThen HB_w9.out HX.out)
        have Al := Lib.hid (Al.out.later HX.out)
        have HU2 := Lib.hid h1.sl
        clear h5 HX h1
        go_wp2_with fail
        refine (put8_any u2 l w10 (by have := HBL1.out; omega) HKS.out HU2.out).mono ?_
        rintro e w11 ⟨vp, gp, rfl, h1, h2, h5⟩
        obtain ⟨pp, np, qp, rfl⟩ := h1.form
        have HX : Hid (Below w10.heap.size w10 w11) := blThen (by repeat (first | with_reducible exact Below.refl _ _ | with_reducible refine blAlloc ?_ _ | with_reducible refine Below.drew ?_)) h5
        have HB_w11 := Lib.hid (blThen HB_w10.out HX.out)
        have Al := Lib.hid (Al.out.later HX.out)
        have HU2 := Lib.hid (HU2.out.later HX.out)
        have HPB := Lib.hid h1.bs.bw
        clear h5 HX h1 h2
        go_wp2_with fail
        refine (parse8_any _ _ (layP l) _ HPB.out HLEN.out).mono ?_
        rintro e w12 ⟨uz, rfl, h1, h5⟩
        rw [HPP.out] at h1 ⊢
        have HX : Hid (Below w11.heap.size w11 w12) := blThen (by repeat (first | with_reducible exact Below.refl _ _ | with_reducible refine blAlloc ?_ _ | with_reducible refine Below.drew ?_)) h5
        have HB_w12 := Lib.hid (blThen HB_w11.out HX.out)
        have Al := Lib.hid (Al.out.later HX.out)
        have HPB := Lib.hid (bw_keep HPB.out HX.out)
        have HZ1 : Hid (SlG eO w12 uz l) := h1.sl
        clear h5 HX h1
        have HK := Lib.hid (fun (Y : World) (h : Below w12.heap.size w12 Y) => bw_str (bw_keep HPB.out h))
        simp only [Option.isSome_some, if_true]
        go_wp2_with fail
        refine wp_region_held_drew (S := (fun Y => (convert 23 9 (.slice pp np qp)).run Tryz.prog Y = .ok (.string ⟨(layP l).toArray⟩) Y)) (by kernel_rfl) (HK.out _ (Below.refl w12.heap.size w12).drew) (fun hHeld => ?_)
        refine wpAnyH_take (i := 0) (oi := { dst := some 64, op := Op.move (Operand.tmp 9), type := 23, pos := "law.go:58", after := #[], guard := none }) (v := ?_) rfl (by kernel_rfl) (by kernel_rfl) (by kernel_rfl) (fun _ _ _ h => h) (Or.inl ⟨by rfl, ?_⟩) (by assumption) ?_
        rotate_left
        · intro w hSw
          try dsimp only at hSw
          go_simp
          try with_reducible rfl
        try simp only [Act.put, List.setIfInBounds_toArray, List.set_cons_zero, List.set_cons_succ]
        refine wpAnyH_take (i := 1) (oi := { dst := some 65, op := Op.convert 23 9 (Operand.tmp 64), type := 9, pos := "law.go:58", after := #[{ on := 0, ground := Ground.data }], guard := none }) (v := ?_) rfl (by kernel_rfl) (by kernel_rfl) (by kernel_rfl) (fun _ _ _ h => h) (Or.inl ⟨by rfl, ?_⟩) (by assumption) ?_
        rotate_left
        · intro w hSw
          try dsimp only at hSw
          go_simp
          try with_reducible rfl
        try simp only [Act.put, List.setIfInBounds_toArray, List.set_cons_zero, List.set_cons_succ]
        refine wpAnyH_take (i := 2) (oi := { dst := some 66, op := Op.move (Operand.tmp 0), type := 58, pos := "law.go:58", after := #[], guard := none }) (v := ?_) rfl (by kernel_rfl) (by kernel_rfl) (by kernel_rfl) (fun _ _ _ h => h) (Or.inl ⟨by rfl, ?_⟩) (by assumption) ?_
        rotate_left
        · intro w hSw
          try dsimp only at hSw
          go_simp
          try with_reducible rfl
        try simp only [Act.put, List.setIfInBounds_toArray, List.set_cons_zero, List.set_cons_succ]
        refine wpAnyH_ready (rs := [3]) (by kernel_rfl) (by simp) ?_
        refine AllReadyH.cons (o := { dst := some 67, op := Op.call { callee := Callee.value (Operand.func 50), args := #[Operand.const (Value.slice none 0 0), Operand.tmp 66], argTypes := #[23, 58] }, type := 23, pos := "law.go:58", after := #[{ on := 2, ground := Ground.data }], guard := none }) rfl (fun K hK => ?_) ?_
        rotate_left
        · exact AllReadyH.nil
        go_simp
        go_at_call 50
        refine (rlay8_any none (.slice none 0 0) vl [] l w12 _ (by have := HBL1.out; omega) HKS.out (S2.Row.nil _) Al.out (by repeat (first | with_reducible exact Below.refl _ _ | with_reducible refine blAlloc ?_ _ | with_reducible refine Below.drew ?_)) (fun k h => by cases h) (by simp)).mono ?_
        rintro e x1 ⟨v5, g5, rfl, h1, h2⟩
        rw [List.nil_append] at h1
        obtain ⟨p5, n5, q5, rfl⟩ := h1.form
        have hs5 := bw_str h1.bs.bw
        have HBx1 : Hid (Below w12.heap.size w12 x1) := blThen (by repeat (first | with_reducible exact Below.refl _ _ | with_reducible refine blAlloc ?_ _ | with_reducible refine Below.drew ?_)) (S2.RowStep.below h2 (Nat.le_refl _) (fun k e => by cases e))
        clear h1 h2
        refine hK.out _ _ (HK.out _ HBx1.out) (fun hHeld => ?_)
        clear hK K
        try simp only [Act.put, List.setIfInBounds_toArray, List.set_cons_zero, List.set_cons_succ]
        refine wpAnyH_ready (rs := [4]) (by kernel_rfl) (by simp) ?_
        refine AllReadyH.cons (o := { dst := some 68, op := Op.convert 23 9 (Operand.tmp 67), type := 9, pos := "law.go:58", after := #[{ on := 3, ground := Ground.data }], guard := none }) rfl (fun K hK => ?_) ?_
        rotate_left
        · exact AllReadyH.nil
        go_simp
        refine hK.out _ _ (HK.out _ HBx1.out) (fun hHeld => ?_)
        clear hK K
        try simp only [Act.put, List.setIfInBounds_toArray, List.set_cons_zero, List.set_cons_succ]
        refine wpAnyH_take (i := 5) (oi := { dst := some 69, op := Op.binOp BinOp.eql 9 (Operand.tmp 65) (Operand.tmp 68) 9, type := 4, pos := "law.go:58", after := #[{ on := 1, ground := Ground.data }, { on := 4, ground := Ground.data }], guard := none }) (v := ?_) rfl (by kernel_rfl) (by kernel_rfl) (by kernel_rfl) (fun _ _ _ h => h) (Or.inl ⟨by rfl, ?_⟩) (by assumption) ?_
        rotate_left
        · intro w hSw
          try dsimp only at hSw
          go_simp
          try with_reducible rfl
        try simp only [Act.put, List.setIfInBounds_toArray, List.set_cons_zero, List.set_cons_succ]
        refine wpAnyH_take (i := 6) (oi := { dst := some 70, op := Op.move (Operand.tmp 69), type := 4, pos := "law.go:58", after := #[{ on := 5, ground := Ground.data }, { on := 3, ground := Ground.chain }], guard := none }) (v := ?_) rfl (by kernel_rfl) (by kernel_rfl) (by kernel_rfl) (fun _ _ _ h => h) (Or.inl ⟨by rfl, ?_⟩) (by assumption) ?_
        rotate_left
        · intro w hSw
          try dsimp only at hSw
          go_simp
          try with_reducible rfl
        try simp only [Act.put, List.setIfInBounds_toArray, List.set_cons_zero, List.set_cons_succ]
        refine wpAnyH_take (i := 7) (oi := { dst := some 71, op := Op.move (Operand.tmp 11), type := 28, pos := "law.go:58", after := #[{ on := 6, ground := Ground.guard }], guard := some (6, true) }) (v := ?_) rfl (by kernel_rfl) (by kernel_rfl) (by kernel_rfl) (fun _ _ _ h => h) (Or.inl ⟨by rfl, ?_⟩) (by assumption) ?_
        rotate_left
        · intro w hSw
          try dsimp only at hSw
          go_simp
          try with_reducible rfl
        try simp only [Act.put, List.setIfInBounds_toArray, List.set_cons_zero, List.set_cons_succ]
        refine wpAnyH_ready (rs := [8]) (by kernel_rfl) (by simp) ?_
        refine AllReadyH.cons (o := { dst := some 72, op := Op.call { callee := Callee.value (Operand.func 44), args := #[Operand.tmp 71], argTypes := #[28] }, type := 3, pos := "law.go:58", after := #[{ on := 7, ground := Ground.data }, { on := 6, ground := Ground.chain }, { on := 6, ground := Ground.guard }], guard := some (6, true) }) rfl (fun K hK => ?_) ?_
        rotate_left
        · exact AllReadyH.nil
        go_simp
        go_at_call 44
        refine (num8_any _ _).mono ?_
        rintro e x2 ⟨rfl, rfl⟩
        refine hK.out _ _ (HK.out _ HBx1.out) (fun hHeld => ?_)
        clear hK K
        try simp only [Act.put, List.setIfInBounds_toArray, List.set_cons_zero, List.set_cons_succ]
        refine wpAnyH_take (i := 9) (oi := { dst := some 73, op := Op.binOp BinOp.eql 3 (Operand.tmp 72) (Operand.const (Value.int IntKind.i64 0)) 3, type := 4, pos := "law.go:58", after := #[{ on := 8, ground := Ground.data }, { on := 6, ground := Ground.guard }], guard := some (6, true) }) (v := ?_) rfl (by kernel_rfl) (by kernel_rfl) (by kernel_rfl) (fun _ _ _ h => h) (Or.inl ⟨by rfl, ?_⟩) (by assumption) ?_
        rotate_left
        · intro w hSw
          try dsimp only at hSw
          go_simp
          try with_reducible rfl
        try simp only [Act.put, List.setIfInBounds_toArray, List.set_cons_zero, List.set_cons_succ]
        refine wpAnyH_take (i := 10) (oi := { dst := some 74, op := Op.pick (Operand.tmp 70) (Operand.tmp 73) (Operand.const (Value.bool false)), type := 4, pos := "law.go:58", after := #[{ on := 6, ground := Ground.data }, { on := 9, ground := Ground.data }], guard := none }) (v := ?_) rfl (by kernel_rfl) (by kernel_rfl) (by kernel_rfl) (fun _ _ _ h => h) (Or.inl ⟨by rfl, ?_⟩) (by assumption) ?_
        rotate_left
        · intro w hSw
          try dsimp only at hSw
          go_simp
          try with_reducible rfl
        try simp only [Act.put, List.setIfInBounds_toArray, List.set_cons_zero, List.set_cons_succ]
        refine wpAnyH_take (i := 11) (oi := { dst := some 75, op := Op.move (Operand.tmp 74), type := 4, pos := "law.go:58", after := #[{ on := 10, ground := Ground.data }, { on := 8, ground := Ground.chain }], guard := none }) (v := ?_) rfl (by kernel_rfl) (by kernel_rfl) (by kernel_rfl) (fun _ _ _ h => h) (Or.inl ⟨by rfl, ?_⟩) (by assumption) ?_
        rotate_left
        · intro w hSw
          try dsimp only at hSw
          go_simp
          try with_reducible rfl
        try simp only [Act.put, List.setIfInBounds_toArray, List.set_cons_zero, List.set_cons_succ]
        refine wpAnyH_take (i := 12) (oi := { dst := some 76, op := Op.move (Operand.tmp 10), type := 58, pos := "law.go:58", after := #[{ on := 11, ground := Ground.guard }], guard := some (11, true) }) (v := ?_) rfl (by kernel_rfl) (by kernel_rfl) (by kernel_rfl) (fun _ _ _ h => h) (Or.inl ⟨by rfl, ?_⟩) (by assumption) ?_
        rotate_left
        · intro w hSw
          try dsimp only at hSw
          go_simp
          try with_reducible rfl
        try simp only [Act.put, List.setIfInBounds_toArray, List.set_cons_zero, List.set_cons_succ]
        refine wpAnyH_take (i := 13) (oi := { dst := some 77, op := Op.move (Operand.tmp 0), type := 58, pos := "law.go:58", after := #[{ on := 11, ground := Ground.guard }], guard := some (11, true) }) (v := ?_) rfl (by kernel_rfl) (by kernel_rfl) (by kernel_rfl) (fun _ _ _ h => h) (Or.inl ⟨by rfl, ?_⟩) (by assumption) ?_
        rotate_left
        · intro w hSw
          try dsimp only at hSw
          go_simp
          try with_reducible rfl
        try simp only [Act.put, List.setIfInBounds_toArray, List.set_cons_zero, List.set_cons_succ]
        refine wpAnyH_ready (rs := [14]) (by kernel_rfl) (by simp) ?_
        refine AllReadyH.cons (o := { dst := some 78, op := Op.call { callee := Callee.value (Operand.func 48), args := #[Operand.tmp 76, Operand.tmp 77], argTypes := #[58, 58] }, type := 4, pos := "law.go:58", after := #[{ on := 12, ground := Ground.data }, { on := 13, ground := Ground.data }, { on := 11, ground := Ground.chain }, { on := 11, ground := Ground.guard }], guard := some (11, true) }) rfl (fun K hK => ?_) ?_
        rotate_left
        · exact AllReadyH.nil
        go_simp
        go_at_call 48
        have h9 := opsame_any uz vl l l _ (by have := HBL1.out; omega) (by have := HBL1.out; omega) (HZ1.out.later (by repeat (first | with_reducible exact HBx1.out | with_reducible exact Below.refl _ _ | with_reducible refine blAlloc ?_ _ | with_reducible refine Below.drew ?_))) (Al.out.later (by repeat (first | with_reducible exact HBx1.out | with_reducible exact Below.refl _ _ | with_reducible refine blAlloc ?_ _ | with_reducible refine Below.drew ?_)))
        rw [decide_eq_true (rfl : l = l)] at h9
        refine h9.mono ?_
        rintro e x3 ⟨rfl, h5⟩
        have HBx3 : Hid (Below w12.heap.size w12 x3) := blThen (by repeat (first | with_reducible exact HBx1.out | with_reducible exact Below.refl _ _ | with_reducible refine blAlloc ?_ _ | with_reducible refine Below.drew ?_)) h5
        clear h5 h9
        refine hK.out _ _ (HK.out _ HBx3.out) (fun hHeld => ?_)
        clear hK K
        try simp only [Act.put, List.setIfInBounds_toArray, List.set_cons_zero, List.set_cons_succ]
        refine wpAnyH_take (i := 15) (oi := { dst := some 79, op := Op.pick (Operand.tmp 75) (Operand.tmp 78) (Operand.const (Value.bool false)), type := 4, pos := "law.go:58", after := #[{ on := 11, ground := Ground.data }, { on := 14, ground := Ground.data }], guard := none }) (v := ?_) rfl (by kernel_rfl) (by kernel_rfl) (by kernel_rfl) (fun _ _ _ h => h) (Or.inl ⟨by rfl, ?_⟩) (by assumption) ?_
        rotate_left
        · intro w hSw
          try dsimp only at hSw
          go_simp
          try with_reducible rfl
        try simp only [Act.put, List.setIfInBounds_toArray, List.set_cons_zero, List.set_cons_succ]
        refine wpAnyH_take (i := 16) (oi := { dst := some 80, op := Op.move (Operand.tmp 79), type := 4, pos := "law.go:58", after := #[{ on := 15, ground := Ground.data }, { on := 14, ground := Ground.chain }], guard := none }) (v := ?_) rfl (by kernel_rfl) (by kernel_rfl) (by kernel_rfl) (fun _ _ _ h => h) (Or.inl ⟨by rfl, ?_⟩) (by assumption) ?_
        rotate_left
        · intro w hSw
          try dsimp only at hSw
          go_simp
          try with_reducible rfl
        try simp only [Act.put, List.setIfInBounds_toArray, List.set_cons_zero, List.set_cons_succ]
        refine wpAnyH_ready (rs := [17]) (by kernel_rfl) (by simp) ?_
        refine AllReadyH.cons (o := { dst := some 81, op := Op.call { callee := Callee.value (Operand.func 41), args := #[], argTypes := #[] }, type := 4, pos := "law.go:58", after := #[{ on := 16, ground := Ground.chain }, { on := 16, ground := Ground.guard }], guard := some (16, true) }) rfl (fun K hK => ?_) ?_
        rotate_left
        · exact AllReadyH.nil
        go_simp
        go_at_call 41
        refine (live8_any _).mono ?_
        rintro e x4 ⟨rfl, h5⟩
        have HBx4 : Hid (Below w12.heap.size w12 x4) := blThen (by repeat (first | with_reducible exact HBx3.out | with_reducible exact HBx1.out | with_reducible exact Below.refl _ _ | with_reducible refine blAlloc ?_ _ | with_reducible refine Below.drew ?_)) h5
        clear h5
        refine hK.out _ _ (HK.out _ HBx4.out) (fun hHeld => ?_)
        clear hK K
        try simp only [Act.put, List.setIfInBounds_toArray, List.set_cons_zero, List.set_cons_succ]
        refine wpAnyH_take (i := 18) (oi := { dst := some 82, op := Op.pick (Operand.tmp 80) (Operand.tmp 81) (Operand.const (Value.bool false)), type := 4, pos := "law.go:58", after := #[{ on := 16, ground := Ground.data }, { on := 17, ground := Ground.data }], guard := none }) (v := ?_) rfl (by kernel_rfl) (by kernel_rfl) (by kernel_rfl) (fun _ _ _ h => h) (Or.inl ⟨by rfl, ?_⟩) (by assumption) ?_
        rotate_left
        · intro w hSw
          try dsimp only at hSw
          go_simp
          try with_reducible rfl
        try simp only [Act.put, List.setIfInBounds_toArray, List.set_cons_zero, List.set_cons_succ]
        refine wpAnyH_take (i := 19) (oi := { dst := some 4, op := Op.assign (Operand.tmp 82), type := 4, pos := "law.go:58", after := #[{ on := 18, ground := Ground.data }, { on := 17, ground := Ground.chain }, { on := 0, ground := Ground.phase }, { on := 1, ground := Ground.phase }, { on := 2, ground := Ground.phase }, { on := 3, ground := Ground.phase }, { on := 4, ground := Ground.phase }, { on := 5, ground := Ground.phase }, { on := 6, ground := Ground.phase }, { on := 7, ground := Ground.phase }, { on := 8, ground := Ground.phase }, { on := 9, ground := Ground.phase }, { on := 10, ground := Ground.phase }, { on := 11, ground := Ground.phase }, { on := 12, ground := Ground.phase }, { on := 13, ground := Ground.phase }, { on := 14, ground := Ground.phase }, { on := 15, ground := Ground.phase }, { on := 16, ground := Ground.phase }, { on := 17, ground := Ground.phase }, { on := 18, ground := Ground.phase }], guard := none }) (v := ?_) rfl (by kernel_rfl) (by kernel_rfl) (by kernel_rfl) (fun _ _ _ h => h) (Or.inl ⟨by rfl, ?_⟩) (by assumption) ?_
        rotate_left
        · intro w hSw
          try dsimp only at hSw
          go_simp
          try with_reducible rfl
        try simp only [Act.put, List.setIfInBounds_toArray, List.set_cons_zero, List.set_cons_succ]
        refine wpAnyH_done (by kernel_rfl) ?_ _
        go_wp2
        go_ret
        exact ⟨rfl, blThen HB_w12.out HBx4.out⟩
      · have hb9 : ((checkP l == 0) = false) := by simpa using hck
        have hd9 : ((checkP l != 0) = true) := by simpa using hck
        go_wp2_with fail
        have h9 := refcheck8_any vl l w8 (by have := HBL1.out; omega) Al.out Nl.out
        refine (h9).mono ?_
        rintro e w9 ⟨rfl, h5⟩
        have HX : Hid (Below w8.heap.size w8 w9) := blThen (by repeat (first | with_reducible exact Below.refl _ _ | with_reducible refine blAlloc ?_ _ | with_reducible refine Below.drew ?_)) h5
        have HB_w9 := Lib.hid (blThen HB_w8.out HX.out)
        have Al := Lib.hid (Al.out.later HX.out)
        clear h5 HX h9
        go_wp2_with fail
        refine (live8_any w9).mono ?_
        rintro e w10 ⟨rfl, h5⟩
        have HX : Hid (Below w9.heap.size w9 w10) := blThen (by repeat (first | with_reducible exact Below.refl _ _ | with_reducible refine blAlloc ?_ _ | with_reducible refine Below.drew ?_)) h5
        have HB_w10 := Lib.hid (blThen HB_w9.out HX.out)
        have Al := Lib.hid (Al.out.later HX.out)
        clear h5 HX
        go_wp2
        go_ret
        exact ⟨rfl, HB_w10.out⟩

end SP
end Go.Proofs.YtjlkgbejldcklaaGreat

/- TxnChecks. Conditions: none. -/
set_option linter.unusedVariables false
set_option linter.unusedSimpArgs false
namespace Go.Proofs.YtjlkgbejldcklaaGreat
open S3 SN
namespace SP
open Go.ChangeShapes Go.WideShapes Go.ChangeAt Go.RowKit Go.Joins Go.Deep


set_option maxRecDepth 100000 in
theorem txnChecks_lifted (os : Os) (started : os.Started) (H : Type) (enc : TypeId × Value → H) :
    ReturnsInHanded {} Tryz.checked os 5 .any (Rows.txnChecksSpec.pre6 enc Tryz.prog Tryz.f5 Rows.txnChecksRow.domain false) (Rows.txnChecksSpec.post enc Tryz.prog Tryz.f5 false true false false) := by
  refine law_lift_sized (C := Tryz.checked) own0 started (by kernel_rfl) Tryz.func5 laid0 rfl (by kernel_rfl) (fun _ _ _ _ => trodAll_mk1 (shut_bool Tryz.underlying4 true)) (fun ds h => match ds, h with | [_, _], _ => ⟨rfl, rfl, rfl⟩)
    (ChangeSpec.witness6 (enc := enc) (C := Tryz.checked) false ⟨#[], #[.slice none 0 0, .slice none 0 0], []⟩ 8 (by kernel_rfl) (by kernel_rfl) (by kernel_rfl) (by kernel_rfl)) ?_
  intro W base args ds before hval0 hA0 hlt hsz
  have hval : ∀ (j : Nat) t v, Tryz.f5.params[j]? = some t → args[j]? = some v → Value.okWide Tryz.prog W .any base t v := hval0
  have hA : DataW.TrodAll enc Tryz.prog W 0 (fun _ => true) true Tryz.f5.params.toList args.toList ds before := hA0
  rw [Tryz.params5] at hA hval
  obtain ⟨v0, v1, d0, d1, p0, p1, rfl, rfl, rfl, h0, h1⟩ := trodAll_two hA
  obtain ⟨l, ol, ml, rl⟩ := open_ops (hval 0 58 v0 rfl rfl) h0
  have hv1 := hval 1 23 v1 rfl rfl
  obtain ⟨g, B, hb⟩ := S2.open_bytesv hv1 h1
  obtain ⟨ab, cb, hv, _⟩ := id hb
  subst hv
  exact txnChecks_walk v0 l ab cb B g W ml (fun o ho => ⟨inW_le8 (rl o ho).2.2.1 hsz (j := 0) (by kernel_rfl) rfl, inW_le8 (rl o ho).2.2.2 hsz (j := 0) (by kernel_rfl) rfl⟩) (fun o ho => (rl o ho).2.1) ol hb

theorem txnChecks_f_inPlace : (Rows.txnChecksRow.inPlace == Tryz.prog.inPlace 5) = true := by kernel_rfl
theorem txnChecks_f_unfollowed : (Rows.txnChecksRow.unfollowed == Tryz.prog.unfollowed 5) = true := by kernel_rfl
theorem txnChecks_f_recurses : (Rows.txnChecksRow.recurses == Tryz.prog.recurses 5) = true := by kernel_rfl
theorem txnChecks_f_named : (Rows.txnChecksRow.named == Tryz.prog.varsNamed 5) = true := by kernel_rfl
theorem txnChecks_laid : laidOutB Tryz.prog = true := by kernel_rfl
theorem txnChecks_rowed : mapsRowed Tryz.prog = true := by kernel_rfl
theorem txnChecks_closed : joinedFacts Tryz.prog 5 Tryz.f5 Rows.txnChecksSpec Rows.txnChecksRow = true := by
  unfold joinedFacts
  rw [txnChecks_laid, txnChecks_rowed, txnChecks_f_inPlace, txnChecks_f_unfollowed, txnChecks_f_recurses, txnChecks_f_named]
  kernel_rfl

theorem txnChecks_holds : Rows.TxnChecksSaid :=
  OpenClaim.holds_of_wide 5 Tryz.f5 rfl rfl rfl rfl rfl rfl rfl ⟨rfl, rfl, rfl, rfl, rfl⟩ rfl rfl rfl rfl rfl (by kernel_rfl) Tryz.func5 txnChecks_closed
    (of_decide_eq_true (by kernel_rfl)) (by unfold Func.isWrapper; rw [if_neg (of_decide_eq_false (by kernel_rfl))]; exact ⟨rfl, rfl⟩)
    (fun os started H enc _ => txnChecks_lifted os started H enc)

#print axioms txnChecks_holds

end SP
end Go.Proofs.YtjlkgbejldcklaaGreat
