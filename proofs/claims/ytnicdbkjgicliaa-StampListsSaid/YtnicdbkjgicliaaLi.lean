/- StampLists: the lists of package stamp are those of the document: each once, merged, below. Conditions: none. -/
import Derived.Test.YtnicdbkjgicliaaMe
import Derived.Test.YtnicdbkjgicliaaRs
import Derived.Test.YtnicdbkjgicliaaOc
import Derived.Test.YtnicdbkjgicliaaSw
set_option linter.unusedSimpArgs false
namespace Go.Proofs.Ytnicdbkjgicliaa
open Go.ChangeShapes Go.WideShapes Go.ChangeAt Go.RowKit Go.Joins Go.Deep
open Go.Sort (grow)

set_option maxRecDepth 100000 in
set_option maxHeartbeats 16000000 in
theorem stampLists_walk (a1 a2 : Option Addr) (c1 c2 : Nat) (l m : List (Int × Int)) (t n : Int) (w : World) (hl1 : SL w a1 l) (hl2 : SL w a2 m)
    (hn1 : a1 = none → c1 = 0) (hn2 : a2 = none → c2 = 0) (hm1 : l.length ≤ 9223372036854775807) (hm2 : m.length ≤ 9223372036854775807) :
    Calls Try.prog 5 #[.slice a1 l.length c1, .slice a2 m.length c2, .agg #[.int .i64 t, .int .i64 n]] w fun e w' => e = .returned (.bool true) ∧ Below w.heap.size w w' := by
  have HL1 := Lib.hid hl1
  have HL2 := Lib.hid hl2
  have HN1 := Lib.hid hn1
  have HN2 := Lib.hid hn2
  clear hl1 hl2 hn1 hn2
  by_cases hlen : 60 < l.length
  · have hlenI : (60 : Int) < (l.length : Int) := by omega
    clear hlen
    go_enter Try.func5, Try.ntmps5
    go_wp2_with (go_at_call 18; refine (live_any _).mono ?_; rintro e w9 ⟨rfl, hb⟩; have HB9 := Lib.hid hb; clear hb)
    go_ret
    exact ⟨rfl, blThen (blAlloc (Below.refl _ _) _) HB9.out⟩
  by_cases hlen2 : 60 < m.length
  · have hlenI : (60 : Int) < (m.length : Int) := by omega
    have hlenJ : ¬ (60 : Int) < (l.length : Int) := by omega
    clear hlen hlen2
    go_enter Try.func5, Try.ntmps5
    go_wp2_with (go_at_call 18; refine (live_any _).mono ?_; rintro e w9 ⟨rfl, hb⟩; have HB9 := Lib.hid hb; clear hb)
    go_ret
    exact ⟨rfl, blThen (blAlloc (Below.refl _ _) _) HB9.out⟩
  · have hlenI : ¬ (60 : Int) < (m.length : Int) := by omega
    have hlenJ : ¬ (60 : Int) < (l.length : Int) := by omega
    have HE1 : Hid (l.length ≤ 60) := by show l.length ≤ _; omega
    have HE2 : Hid (m.length ≤ 60) := by show m.length ≤ _; omega
    go_enter Try.func5, Try.ntmps5
    go_wp2_with fail
    have hB0 : Hid (Below w.heap.size w (w.alloc (Obj.cells #[Value.int IntKind.i64 t, Value.int IntKind.i64 n] 23))) := blAlloc (Below.refl _ _) _
    have hS0 : Own2 (w.alloc (Obj.cells #[Value.int IntKind.i64 t, Value.int IntKind.i64 n] 23)) w.heap.size t n := own2_new _ _ _
    generalize w.alloc (Obj.cells #[Value.int IntKind.i64 t, Value.int IntKind.i64 n] 23) = W at *
    have HS0 := Lib.hid hS0
    clear hS0 hlen hlen2 hlenI hlenJ hm1 hm2
    refine (refsort_any a1 c1 l _ (Nat.le_trans HE1.out (by decide)) (HL1.out.later hB0.out)).mono ?_
    obtain ⟨A, hA⟩ : ∃ A, sortL l = A := ⟨_, rfl⟩
    have HAE := Lib.hid hA
    have HLENA : Hid (A.length ≤ 60) := by show A.length ≤ 60; rw [← hA]; exact Nat.le_trans (sortL_length l) HE1.out
    rw [hA]
    clear hA
    rintro e w1 ⟨x1, d1, rfl, hsl1, hn1, hc1, hb1⟩
    have HB1 := Lib.hid (blThen hB0.out hb1)
    have HS1 := Lib.hid (HS0.out.later hb1 HS0.out.lt)
    have HA1 := Lib.hid hsl1
    have HX1 := Lib.hid hn1
    have HC1 := Lib.hid hc1
    clear hb1 hsl1 hn1 hc1
    go_wp2_with fail
    refine (refsort_any a2 c2 m _ (Nat.le_trans HE2.out (by decide)) (HL2.out.later HB1.out)).mono ?_
    obtain ⟨B, hB⟩ : ∃ B, sortL m = B := ⟨_, rfl⟩
    have HLENB : Hid (B.length ≤ 60) := by show B.length ≤ 60; rw [← hB]; exact Nat.le_trans (sortL_length m) HE2.out
    rw [hB]
    clear hB
    rintro e w2 ⟨x2, d2, rfl, hsl2, hn2, hc2, hb2⟩
    have HB2 := Lib.hid (blThen HB1.out hb2)
    have HS2 := Lib.hid (HS1.out.later hb2 HS1.out.lt)
    have HA2 := Lib.hid (HA1.out.later hb2)
    have HBB2 := Lib.hid hsl2
    have HX2 := Lib.hid hn2
    have HC2 := Lib.hid hc2
    clear hb2 hsl2 hn2 hc2
    go_wp2_with fail
    refine (ownc_any x1 d1 A _ (Nat.le_trans HLENA.out (by decide)) HA2.out HX1.out).mono ?_
    rintro e w3 ⟨v3, rfl, hown3, hb3⟩
    have HB3 := Lib.hid (blThen HB2.out hb3)
    have HS3 := Lib.hid (HS2.out.later hb3 HS2.out.lt)
    have HA3 := Lib.hid (HA2.out.later hb3)
    have HBB3 := Lib.hid (HBB2.out.later hb3)
    have HO3 := Lib.hid hown3
    have HW23 := Lib.hid hb3
    clear hb3 hown3
    go_wp2_with (at_builtin; refine append_st rfl _ _ rfl w2.heap.size _ A rfl HO3.out x2 d2 B rfl HBB3.out HX2.out (by have := HLENA.out; have := HLENB.out; omega) HW23.out.size ?_)
    intro v4 w4 hown4 hgrow4
    have HW24 : Hid (Below w2.heap.size w2 w4) := grown_below HW23.out HO3.out (Nat.le_refl _) HW23.out.size hgrow4
    have HB4 := Lib.hid (blThen HB2.out HW24.out)
    have HS4 := Lib.hid (HS2.out.later HW24.out HS2.out.lt)
    have HA4 := Lib.hid (HA2.out.later HW24.out)
    have HBB4 := Lib.hid (HBB2.out.later HW24.out)
    have HLENAB : Hid ((A ++ B).length ≤ 1000000) := by have := HLENA.out; have := HLENB.out; show (A ++ B).length ≤ _; rw [List.length_append]; omega
    obtain ⟨X, hX⟩ : ∃ X, sortL (A ++ B) = X := ⟨_, rfl⟩
    have HXE := Lib.hid hX
    have HLENX : Hid (X.length ≤ 120) := by
      show X.length ≤ 120
      rw [← hX]
      refine Nat.le_trans (sortL_length _) ?_
      have := HLENA.out
      have := HLENB.out
      rw [List.length_append]
      omega
    clear hX
    generalize hAB : A ++ B = AB at hown4 HLENAB
    have HABE := Lib.hid hAB
    clear hAB hgrow4
    obtain ⟨x4, d4, rfl, hsl4, hn4, _, _⟩ := hown4.sl
    have HAB4 := Lib.hid hsl4
    clear hsl4 hn4 hown4
    go_wp2_with fail
    refine (refsort_any x4 d4 AB _ HLENAB.out HAB4.out).mono ?_
    rw [← HABE.out, HXE.out]
    rintro e w5 ⟨x5, d5, rfl, hsl5, hn5, hc5, hb5⟩
    have HB5 := Lib.hid (blThen HB4.out hb5)
    have HS5 := Lib.hid (HS4.out.later hb5 HS4.out.lt)
    have HSLA := Lib.hid (HA4.out.later hb5)
    have HSLB := Lib.hid (HBB4.out.later hb5)
    have HSLX := Lib.hid hsl5
    have HX5 := Lib.hid hn5
    have HC5 := Lib.hid hc5
    have HSLl := Lib.hid (HL1.out.later HB5.out)
    have HLT := Lib.hid HS5.out.lt
    have HQ0 := Lib.hid HS5.out.c0
    have HQ1 := Lib.hid HS5.out.c1
    clear hb5 hsl5 hn5 hc5
    go_wp2_with fail
    obtain ⟨FF, hFF⟩ : ∃ FF, (A.filter fun x => ltS x (t, n)) = FF := ⟨_, rfl⟩
    have HFE := Lib.hid hFF
    have HLENF : Hid (FF.length ≤ 60) := by show FF.length ≤ 60; rw [← hFF]; exact Nat.le_trans (List.length_filter_le _ _) HLENA.out
    have HLENl := HE1
    clear hFF
    obtain ⟨ia, hia⟩ : ∃ ia, decide ((t, n) ∈ A) = ia := ⟨_, rfl⟩
    have HINA := Lib.hid hia
    clear hia
    refine wp_region_held_drew (S := fun w' => Below w5.heap.size w5 w') (by kernel_rfl) ⟨rfl, rfl, rfl, Nat.le_refl _, fun _ _ => rfl⟩ (fun hHeld => ?_)
    refine wpAnyH_take (i := 0) (oi := { dst := some 28, op := Op.move (Operand.tmp 0), type := 31, pos := _, after := #[], guard := none }) (v := ?v0x1) rfl (by kernel_rfl) (by kernel_rfl) (by kernel_rfl) (fun _ _ _ h => h) (Or.inl ⟨by rfl, ?hy0x1⟩) hHeld ?rest0x1
    case hy0x1 => (intro w' hSw; go_simp; try with_reducible rfl)
    try simp only [Act.put, List.setIfInBounds_toArray, List.set_cons_zero, List.set_cons_succ]
    refine wpAnyH_take (i := 3) (oi := { dst := some 31, op := Op.move (Operand.tmp 7), type := 31, pos := _, after := #[], guard := none }) (v := ?v3x2) rfl (by kernel_rfl) (by kernel_rfl) (by kernel_rfl) (fun _ _ _ h => h) (Or.inl ⟨by rfl, ?hy3x2⟩) hHeld ?rest3x2
    case hy3x2 => (intro w' hSw; go_simp; try with_reducible rfl)
    try simp only [Act.put, List.setIfInBounds_toArray, List.set_cons_zero, List.set_cons_succ]
    refine wpAnyH_ready (rs := [1]) (by kernel_rfl) (by simp) ?_
    refine AllReadyH.cons (o := { dst := some 29, op := Op.call { callee := Callee.value (Operand.func 20), args := #[Operand.tmp 28], argTypes := #[31] }, type := 31, pos := _, after := #[{ on := 0, ground := Ground.data }], guard := none }) rfl (fun K hK => ?_) AllReadyH.nil
    go_simp
    refine (ownc_any a1 c1 l _ (Nat.le_trans HLENl.out (by decide)) (HSLl.out.later hHeld) HN1.out).mono ?_
    rintro e w6 ⟨v6, rfl, hown, hb⟩
    obtain ⟨y1, y1d, rfl, hsl, hno, _, hle⟩ := hown.sl
    have HSy1 := Lib.hid hsl
    have HNy1 := Lib.hid hno
    have HDy1 := Lib.hid hle
    clear hsl hno hle hown
    go_wp2_with fail
    refine hK.out _ _ (blThen hHeld hb) (fun hHeldN => ?_)
    clear hHeld hb
    have hHeld := hHeldN
    clear hHeldN
    clear hK K
    try simp only [Act.put, List.setIfInBounds_toArray, List.set_cons_zero, List.set_cons_succ]
    refine wpAnyH_ready (rs := [2]) (by kernel_rfl) (by simp) ?_
    refine AllReadyH.cons (o := { dst := some 30, op := Op.call { callee := Callee.value (Operand.func 26), args := #[Operand.tmp 29], argTypes := #[31] }, type := 31, pos := _, after := #[{ on := 1, ground := Ground.data }, { on := 1, ground := Ground.chain }], guard := none }) rfl (fun K hK => ?_) AllReadyH.nil
    go_simp
    refine (sort_any y1 y1d l _ (Nat.le_trans HLENl.out (by decide)) HSy1.out HNy1.out).mono ?_
    rw [HAE.out]
    rintro e w6 ⟨y2, y2d, rfl, hsl, hno, _, hle, _, hb⟩
    have HSy2 := Lib.hid hsl
    have HNy2 := Lib.hid hno
    have HDy2 := Lib.hid hle
    clear hsl hno hle
    go_wp2_with fail
    refine hK.out _ _ (blThen hHeld hb) (fun hHeldN => ?_)
    clear hHeld hb
    have hHeld := hHeldN
    clear hHeldN
    clear hK K
    try simp only [Act.put, List.setIfInBounds_toArray, List.set_cons_zero, List.set_cons_succ]
    refine wpAnyH_ready (rs := [4]) (by kernel_rfl) (by simp) ?_
    refine AllReadyH.cons (o := { dst := some 32, op := Op.call { callee := Callee.value (Operand.func 25), args := #[Operand.tmp 30, Operand.tmp 31], argTypes := #[31, 31] }, type := 4, pos := _, after := #[{ on := 2, ground := Ground.data }, { on := 3, ground := Ground.data }, { on := 2, ground := Ground.chain }], guard := none }) rfl (fun K hK => ?_) AllReadyH.nil
    go_simp
    refine (same_yes y2 x1 y2d d1 A _ (Nat.le_trans HLENA.out (by decide)) HSy2.out (HSLA.out.later hHeld)).mono ?_
    rintro e w6 ⟨rfl, hb⟩
    go_wp2_with fail
    refine hK.out _ _ (blThen hHeld hb) (fun hHeldN => ?_)
    clear hHeld hb
    have hHeld := hHeldN
    clear hHeldN
    clear hK K
    try simp only [Act.put, List.setIfInBounds_toArray, List.set_cons_zero, List.set_cons_succ]
    refine wpAnyH_take (i := 5) (oi := { dst := some 33, op := Op.move (Operand.tmp 32), type := 4, pos := _, after := #[{ on := 4, ground := Ground.data }, { on := 4, ground := Ground.chain }], guard := none }) (v := ?v5x3) rfl (by kernel_rfl) (by kernel_rfl) (by kernel_rfl) (fun _ _ _ h => h) (Or.inl ⟨by rfl, ?hy5x3⟩) hHeld ?rest5x3
    case hy5x3 => (intro w' hSw; go_simp; try with_reducible rfl)
    try simp only [Act.put, List.setIfInBounds_toArray, List.set_cons_zero, List.set_cons_succ]
    refine wpAnyH_take (i := 6) (oi := { dst := some 34, op := Op.move (Operand.tmp 7), type := 31, pos := _, after := #[{ on := 5, ground := Ground.guard }], guard := some (5, true) }) (v := ?v6x4) rfl (by kernel_rfl) (by kernel_rfl) (by kernel_rfl) (fun _ _ _ h => h) (Or.inl ⟨by rfl, ?hy6x4⟩) hHeld ?rest6x4
    case hy6x4 => (intro w' hSw; go_simp; try with_reducible rfl)
    try simp only [Act.put, List.setIfInBounds_toArray, List.set_cons_zero, List.set_cons_succ]
    refine wpAnyH_take (i := 8) (oi := { dst := some 36, op := Op.move (Operand.tmp 8), type := 31, pos := _, after := #[{ on := 5, ground := Ground.guard }], guard := some (5, true) }) (v := ?v8x5) rfl (by kernel_rfl) (by kernel_rfl) (by kernel_rfl) (fun _ _ _ h => h) (Or.inl ⟨by rfl, ?hy8x5⟩) hHeld ?rest8x5
    case hy8x5 => (intro w' hSw; go_simp; try with_reducible rfl)
    try simp only [Act.put, List.setIfInBounds_toArray, List.set_cons_zero, List.set_cons_succ]
    refine wpAnyH_take (i := 12) (oi := { dst := some 40, op := Op.move (Operand.tmp 9), type := 31, pos := _, after := #[{ on := 5, ground := Ground.guard }], guard := some (5, true) }) (v := ?v12x6) rfl (by kernel_rfl) (by kernel_rfl) (by kernel_rfl) (fun _ _ _ h => h) (Or.inl ⟨by rfl, ?hy12x6⟩) hHeld ?rest12x6
    case hy12x6 => (intro w' hSw; go_simp; try with_reducible rfl)
    try simp only [Act.put, List.setIfInBounds_toArray, List.set_cons_zero, List.set_cons_succ]
    refine wpAnyH_ready (rs := [7]) (by kernel_rfl) (by simp) ?_
    refine AllReadyH.cons (o := { dst := some 35, op := Op.call { callee := Callee.value (Operand.func 20), args := #[Operand.tmp 34], argTypes := #[31] }, type := 31, pos := _, after := #[{ on := 6, ground := Ground.data }, { on := 5, ground := Ground.chain }, { on := 5, ground := Ground.guard }], guard := some (5, true) }) rfl (fun K hK => ?_) AllReadyH.nil
    go_simp
    refine (ownc_any x1 d1 A _ (Nat.le_trans HLENA.out (by decide)) (HSLA.out.later hHeld) HX1.out).mono ?_
    rintro e w6 ⟨v6, rfl, hown, hb⟩
    obtain ⟨y3, y3d, rfl, hsl, hno, _, hle⟩ := hown.sl
    have HSy3 := Lib.hid hsl
    have HNy3 := Lib.hid hno
    have HDy3 := Lib.hid hle
    clear hsl hno hle hown
    go_wp2_with fail
    refine hK.out _ _ (blThen hHeld hb) (fun hHeldN => ?_)
    clear hHeld hb
    have hHeld := hHeldN
    clear hHeldN
    clear hK K
    try simp only [Act.put, List.setIfInBounds_toArray, List.set_cons_zero, List.set_cons_succ]
    refine wpAnyH_ready (rs := [9]) (by kernel_rfl) (by simp) ?_
    refine AllReadyH.cons (o := { dst := some 37, op := Op.call { callee := Callee.value (Operand.func 20), args := #[Operand.tmp 36], argTypes := #[31] }, type := 31, pos := _, after := #[{ on := 8, ground := Ground.data }, { on := 7, ground := Ground.chain }, { on := 5, ground := Ground.guard }], guard := some (5, true) }) rfl (fun K hK => ?_) AllReadyH.nil
    go_simp
    refine (ownc_any x2 d2 B _ (Nat.le_trans HLENB.out (by decide)) (HSLB.out.later hHeld) HX2.out).mono ?_
    rintro e w6 ⟨v6, rfl, hown, hb⟩
    obtain ⟨y4, y4d, rfl, hsl, hno, _, hle⟩ := hown.sl
    have HSy4 := Lib.hid hsl
    have HNy4 := Lib.hid hno
    have HDy4 := Lib.hid hle
    have HSz3 := Lib.hid (HSy3.out.later hb)
    clear hsl hno hle hown
    go_wp2_with fail
    refine hK.out _ _ (blThen hHeld hb) (fun hHeldN => ?_)
    clear hHeld hb
    have hHeld := hHeldN
    clear hHeldN
    clear hK K
    try simp only [Act.put, List.setIfInBounds_toArray, List.set_cons_zero, List.set_cons_succ]
    refine wpAnyH_ready (rs := [10]) (by kernel_rfl) (by simp) ?_
    refine AllReadyH.cons (o := { dst := some 38, op := Op.buildSlice 74 2 #[(0, Operand.tmp 35), (1, Operand.tmp 37)], type := 74, pos := _, after := #[{ on := 7, ground := Ground.data }, { on := 9, ground := Ground.data }, { on := 5, ground := Ground.guard }], guard := some (5, true) }) rfl (fun K hK => ?_) AllReadyH.nil
    go_simp
    refine hK.out _ _ (blAlloc hHeld _) (fun hHeldN => ?_)
    clear hK K
    try simp only [Act.put, List.setIfInBounds_toArray, List.set_cons_zero, List.set_cons_succ]
    refine wpAnyH_ready (rs := [11]) (by kernel_rfl) (by simp) ?_
    refine AllReadyH.cons (o := { dst := some 39, op := Op.call { callee := Callee.value (Operand.func 27), args := #[Operand.tmp 38], argTypes := #[74] }, type := 31, pos := _, after := #[{ on := 10, ground := Ground.data }, { on := 9, ground := Ground.chain }, { on := 5, ground := Ground.guard }], guard := some (5, true) }) rfl (fun K hK => ?_) AllReadyH.nil
    go_simp
    refine (merge2 _ y3 y4 y3d y4d A B HSz3.out HSy4.out HNy3.out HNy4.out HDy3.out HDy4.out (by have := HLENA.out; have := HLENB.out; omega)).mono ?_
    rw [HXE.out]
    rintro e w6 ⟨y5, y5d, rfl, hsl, hno, hle, hb⟩
    have HSy5 := Lib.hid hsl
    clear hsl hno hle
    go_wp2_with fail
    refine hK.out _ _ (blThen hHeld hb) (fun hHeldM => ?_)
    clear hHeld hHeldN hb
    have hHeld := hHeldM
    clear hHeldM
    clear hK K
    try simp only [Act.put, List.setIfInBounds_toArray, List.set_cons_zero, List.set_cons_succ]
    refine wpAnyH_ready (rs := [13]) (by kernel_rfl) (by simp) ?_
    refine AllReadyH.cons (o := { dst := some 41, op := Op.call { callee := Callee.value (Operand.func 25), args := #[Operand.tmp 39, Operand.tmp 40], argTypes := #[31, 31] }, type := 4, pos := _, after := #[{ on := 11, ground := Ground.data }, { on := 12, ground := Ground.data }, { on := 11, ground := Ground.chain }, { on := 5, ground := Ground.guard }], guard := some (5, true) }) rfl (fun K hK => ?_) AllReadyH.nil
    go_simp
    refine (same_yes y5 x5 y5d d5 X _ (Nat.le_trans HLENX.out (by decide)) HSy5.out (HSLX.out.later hHeld)).mono ?_
    rintro e w6 ⟨rfl, hb⟩
    go_wp2_with fail
    refine hK.out _ _ (blThen hHeld hb) (fun hHeldN => ?_)
    clear hHeld hb
    have hHeld := hHeldN
    clear hHeldN
    clear hK K
    try simp only [Act.put, List.setIfInBounds_toArray, List.set_cons_zero, List.set_cons_succ]
    refine wpAnyH_take (i := 14) (oi := { dst := some 42, op := Op.pick (Operand.tmp 33) (Operand.tmp 41) (Operand.const (Value.bool false)), type := 4, pos := _, after := #[{ on := 5, ground := Ground.data }, { on := 13, ground := Ground.data }], guard := none }) (v := ?v14x7) rfl (by kernel_rfl) (by kernel_rfl) (by kernel_rfl) (fun _ _ _ h => h) (Or.inl ⟨by rfl, ?hy14x7⟩) hHeld ?rest14x7
    case hy14x7 => (intro w' hSw; go_simp; try with_reducible rfl)
    try simp only [Act.put, List.setIfInBounds_toArray, List.set_cons_zero, List.set_cons_succ]
    refine wpAnyH_take (i := 15) (oi := { dst := some 43, op := Op.move (Operand.tmp 42), type := 4, pos := _, after := #[{ on := 14, ground := Ground.data }, { on := 13, ground := Ground.chain }], guard := none }) (v := ?v15x8) rfl (by kernel_rfl) (by kernel_rfl) (by kernel_rfl) (fun _ _ _ h => h) (Or.inl ⟨by rfl, ?hy15x8⟩) hHeld ?rest15x8
    case hy15x8 => (intro w' hSw; go_simp; try with_reducible rfl)
    try simp only [Act.put, List.setIfInBounds_toArray, List.set_cons_zero, List.set_cons_succ]
    refine wpAnyH_take (i := 16) (oi := { dst := some 44, op := Op.move (Operand.tmp 7), type := 31, pos := _, after := #[{ on := 15, ground := Ground.guard }], guard := some (15, true) }) (v := ?v16x9) rfl (by kernel_rfl) (by kernel_rfl) (by kernel_rfl) (fun _ _ _ h => h) (Or.inl ⟨by rfl, ?hy16x9⟩) hHeld ?rest16x9
    case hy16x9 => (intro w' hSw; go_simp; try with_reducible rfl)
    try simp only [Act.put, List.setIfInBounds_toArray, List.set_cons_zero, List.set_cons_succ]
    refine wpAnyH_take (i := 18) (oi := { dst := some 46, op := Op.load 23 (Operand.tmp 5), type := 23, pos := _, after := #[{ on := 15, ground := Ground.guard }], guard := some (15, true) }) (v := ?v18x10) rfl (by kernel_rfl) (by kernel_rfl) (by kernel_rfl) (fun _ _ _ h => h) (Or.inl ⟨by rfl, ?hy18x10⟩) hHeld ?rest18x10
    case hy18x10 => (intro w' hSw; have s0 := cell_in hSw HLT.out HQ0.out; have s1 := cell_in hSw HLT.out HQ1.out; go_simp; try with_reducible rfl)
    try simp only [Act.put, List.setIfInBounds_toArray, List.set_cons_zero, List.set_cons_succ]
    refine wpAnyH_take (i := 20) (oi := { dst := some 48, op := Op.move (Operand.tmp 7), type := 31, pos := _, after := #[{ on := 15, ground := Ground.guard }], guard := some (15, true) }) (v := ?v20x11) rfl (by kernel_rfl) (by kernel_rfl) (by kernel_rfl) (fun _ _ _ h => h) (Or.inl ⟨by rfl, ?hy20x11⟩) hHeld ?rest20x11
    case hy20x11 => (intro w' hSw; go_simp; try with_reducible rfl)
    try simp only [Act.put, List.setIfInBounds_toArray, List.set_cons_zero, List.set_cons_succ]
    refine wpAnyH_take (i := 21) (oi := { dst := some 49, op := Op.load 23 (Operand.tmp 5), type := 23, pos := _, after := #[{ on := 15, ground := Ground.guard }], guard := some (15, true) }) (v := ?v21x12) rfl (by kernel_rfl) (by kernel_rfl) (by kernel_rfl) (fun _ _ _ h => h) (Or.inl ⟨by rfl, ?hy21x12⟩) hHeld ?rest21x12
    case hy21x12 => (intro w' hSw; have s0 := cell_in hSw HLT.out HQ0.out; have s1 := cell_in hSw HLT.out HQ1.out; go_simp; try with_reducible rfl)
    try simp only [Act.put, List.setIfInBounds_toArray, List.set_cons_zero, List.set_cons_succ]
    refine wpAnyH_ready (rs := [17]) (by kernel_rfl) (by simp) ?_
    refine AllReadyH.cons (o := { dst := some 45, op := Op.call { callee := Callee.value (Operand.func 20), args := #[Operand.tmp 44], argTypes := #[31] }, type := 31, pos := _, after := #[{ on := 16, ground := Ground.data }, { on := 15, ground := Ground.chain }, { on := 15, ground := Ground.guard }], guard := some (15, true) }) rfl (fun K hK => ?_) AllReadyH.nil
    go_simp
    refine (ownc_any x1 d1 A _ (Nat.le_trans HLENA.out (by decide)) (HSLA.out.later hHeld) HX1.out).mono ?_
    rintro e w6 ⟨v6, rfl, hown, hb⟩
    obtain ⟨y6, y6d, rfl, hsl, hno, _, hle⟩ := hown.sl
    have HSy6 := Lib.hid hsl
    have HNy6 := Lib.hid hno
    have HDy6 := Lib.hid hle
    clear hsl hno hle hown
    go_wp2_with fail
    refine hK.out _ _ (blThen hHeld hb) (fun hHeldN => ?_)
    clear hHeld hb
    have hHeld := hHeldN
    clear hHeldN
    clear hK K
    try simp only [Act.put, List.setIfInBounds_toArray, List.set_cons_zero, List.set_cons_succ]
    refine wpAnyH_ready (rs := [19]) (by kernel_rfl) (by simp) ?_
    refine AllReadyH.cons (o := { dst := some 47, op := Op.call { callee := Callee.value (Operand.func 28), args := #[Operand.tmp 45, Operand.tmp 46], argTypes := #[31, 23] }, type := 4, pos := _, after := #[{ on := 17, ground := Ground.data }, { on := 18, ground := Ground.data }, { on := 17, ground := Ground.chain }, { on := 15, ground := Ground.guard }], guard := some (15, true) }) rfl (fun K hK => ?_) AllReadyH.nil
    go_simp
    refine (has_any y6 y6d A t n _ (Nat.le_trans HLENA.out (by decide)) HSy6.out).mono ?_
    rw [HINA.out]
    rintro e w6 ⟨rfl, hb⟩
    go_wp2_with fail
    refine hK.out _ _ (blThen hHeld hb) (fun hHeldN => ?_)
    clear hHeld hb
    have hHeld := hHeldN
    clear hHeldN
    clear hK K
    try simp only [Act.put, List.setIfInBounds_toArray, List.set_cons_zero, List.set_cons_succ]
    refine wpAnyH_ready (rs := [22]) (by kernel_rfl) (by simp) ?_
    refine AllReadyH.cons (o := { dst := some 50, op := Op.call { callee := Callee.value (Operand.func 29), args := #[Operand.tmp 48, Operand.tmp 49], argTypes := #[31, 23] }, type := 4, pos := _, after := #[{ on := 20, ground := Ground.data }, { on := 21, ground := Ground.data }, { on := 19, ground := Ground.chain }, { on := 15, ground := Ground.guard }], guard := some (15, true) }) rfl (fun K hK => ?_) AllReadyH.nil
    go_simp
    refine (refhas_any x1 d1 A t n _ (Nat.le_trans HLENA.out (by decide)) (HSLA.out.later hHeld)).mono ?_
    rw [HINA.out]
    rintro e w6 ⟨rfl, hb⟩
    go_wp2_with fail
    refine hK.out _ _ (blThen hHeld hb) (fun hHeldN => ?_)
    clear hHeld hb
    have hHeld := hHeldN
    clear hHeldN
    clear hK K
    try simp only [Act.put, List.setIfInBounds_toArray, List.set_cons_zero, List.set_cons_succ]
    refine wpAnyH_take (i := 23) (oi := { dst := some 51, op := Op.binOp BinOp.eql 4 (Operand.tmp 47) (Operand.tmp 50) 4, type := 4, pos := _, after := #[{ on := 19, ground := Ground.data }, { on := 22, ground := Ground.data }, { on := 15, ground := Ground.guard }], guard := some (15, true) }) (v := ?v23x13) rfl (by kernel_rfl) (by kernel_rfl) (by kernel_rfl) (fun _ _ _ h => h) (Or.inl ⟨by rfl, ?hy23x13⟩) hHeld ?rest23x13
    case hy23x13 => (intro w' hSw; go_simp; try with_reducible rfl)
    try simp only [Act.put, List.setIfInBounds_toArray, List.set_cons_zero, List.set_cons_succ]
    refine wpAnyH_take (i := 24) (oi := { dst := some 52, op := Op.pick (Operand.tmp 43) (Operand.tmp 51) (Operand.const (Value.bool false)), type := 4, pos := _, after := #[{ on := 15, ground := Ground.data }, { on := 23, ground := Ground.data }], guard := none }) (v := ?v24x14) rfl (by kernel_rfl) (by kernel_rfl) (by kernel_rfl) (fun _ _ _ h => h) (Or.inl ⟨by rfl, ?hy24x14⟩) hHeld ?rest24x14
    case hy24x14 => (intro w' hSw; go_simp; try with_reducible rfl)
    try simp only [Act.put, List.setIfInBounds_toArray, List.set_cons_zero, List.set_cons_succ]
    refine wpAnyH_take (i := 25) (oi := { dst := some 53, op := Op.move (Operand.tmp 52), type := 4, pos := _, after := #[{ on := 24, ground := Ground.data }, { on := 22, ground := Ground.chain }], guard := none }) (v := ?v25x15) rfl (by kernel_rfl) (by kernel_rfl) (by kernel_rfl) (fun _ _ _ h => h) (Or.inl ⟨by rfl, ?hy25x15⟩) hHeld ?rest25x15
    case hy25x15 => (intro w' hSw; go_simp; try with_reducible rfl)
    try simp only [Act.put, List.setIfInBounds_toArray, List.set_cons_zero, List.set_cons_succ]
    refine wpAnyH_take (i := 26) (oi := { dst := some 54, op := Op.move (Operand.tmp 7), type := 31, pos := _, after := #[{ on := 25, ground := Ground.guard }], guard := some (25, true) }) (v := ?v26x16) rfl (by kernel_rfl) (by kernel_rfl) (by kernel_rfl) (fun _ _ _ h => h) (Or.inl ⟨by rfl, ?hy26x16⟩) hHeld ?rest26x16
    case hy26x16 => (intro w' hSw; go_simp; try with_reducible rfl)
    try simp only [Act.put, List.setIfInBounds_toArray, List.set_cons_zero, List.set_cons_succ]
    refine wpAnyH_take (i := 28) (oi := { dst := some 56, op := Op.load 23 (Operand.tmp 5), type := 23, pos := _, after := #[{ on := 25, ground := Ground.guard }], guard := some (25, true) }) (v := ?v28x17) rfl (by kernel_rfl) (by kernel_rfl) (by kernel_rfl) (fun _ _ _ h => h) (Or.inl ⟨by rfl, ?hy28x17⟩) hHeld ?rest28x17
    case hy28x17 => (intro w' hSw; have s0 := cell_in hSw HLT.out HQ0.out; have s1 := cell_in hSw HLT.out HQ1.out; go_simp; try with_reducible rfl)
    try simp only [Act.put, List.setIfInBounds_toArray, List.set_cons_zero, List.set_cons_succ]
    refine wpAnyH_take (i := 30) (oi := { dst := some 58, op := Op.move (Operand.tmp 7), type := 31, pos := _, after := #[{ on := 25, ground := Ground.guard }], guard := some (25, true) }) (v := ?v30x18) rfl (by kernel_rfl) (by kernel_rfl) (by kernel_rfl) (fun _ _ _ h => h) (Or.inl ⟨by rfl, ?hy30x18⟩) hHeld ?rest30x18
    case hy30x18 => (intro w' hSw; go_simp; try with_reducible rfl)
    try simp only [Act.put, List.setIfInBounds_toArray, List.set_cons_zero, List.set_cons_succ]
    refine wpAnyH_take (i := 31) (oi := { dst := some 59, op := Op.load 23 (Operand.tmp 5), type := 23, pos := _, after := #[{ on := 25, ground := Ground.guard }], guard := some (25, true) }) (v := ?v31x19) rfl (by kernel_rfl) (by kernel_rfl) (by kernel_rfl) (fun _ _ _ h => h) (Or.inl ⟨by rfl, ?hy31x19⟩) hHeld ?rest31x19
    case hy31x19 => (intro w' hSw; have s0 := cell_in hSw HLT.out HQ0.out; have s1 := cell_in hSw HLT.out HQ1.out; go_simp; try with_reducible rfl)
    try simp only [Act.put, List.setIfInBounds_toArray, List.set_cons_zero, List.set_cons_succ]
    refine wpAnyH_ready (rs := [27]) (by kernel_rfl) (by simp) ?_
    refine AllReadyH.cons (o := { dst := some 55, op := Op.call { callee := Callee.value (Operand.func 20), args := #[Operand.tmp 54], argTypes := #[31] }, type := 31, pos := _, after := #[{ on := 26, ground := Ground.data }, { on := 25, ground := Ground.chain }, { on := 25, ground := Ground.guard }], guard := some (25, true) }) rfl (fun K hK => ?_) AllReadyH.nil
    go_simp
    refine (ownc_any x1 d1 A _ (Nat.le_trans HLENA.out (by decide)) (HSLA.out.later hHeld) HX1.out).mono ?_
    rintro e w6 ⟨v6, rfl, hown, hb⟩
    obtain ⟨y7, y7d, rfl, hsl, hno, _, hle⟩ := hown.sl
    have HSy7 := Lib.hid hsl
    have HNy7 := Lib.hid hno
    have HDy7 := Lib.hid hle
    clear hsl hno hle hown
    go_wp2_with fail
    refine hK.out _ _ (blThen hHeld hb) (fun hHeldN => ?_)
    clear hHeld hb
    have hHeld := hHeldN
    clear hHeldN
    clear hK K
    try simp only [Act.put, List.setIfInBounds_toArray, List.set_cons_zero, List.set_cons_succ]
    refine wpAnyH_ready (rs := [29]) (by kernel_rfl) (by simp) ?_
    refine AllReadyH.cons (o := { dst := some 57, op := Op.call { callee := Callee.value (Operand.func 30), args := #[Operand.tmp 55, Operand.tmp 56], argTypes := #[31, 23] }, type := 31, pos := _, after := #[{ on := 27, ground := Ground.data }, { on := 28, ground := Ground.data }, { on := 27, ground := Ground.chain }, { on := 25, ground := Ground.guard }], guard := some (25, true) }) rfl (fun K hK => ?_) AllReadyH.nil
    go_simp
    refine (below_any y7 y7d A t n _ (Nat.le_trans HLENA.out (by decide)) HSy7.out).mono ?_
    rw [HFE.out]
    rintro e w6 ⟨y8, y8d, rfl, hsl, hno, _, hle, _, hb⟩
    have HSy8 := Lib.hid hsl
    have HNy8 := Lib.hid hno
    have HDy8 := Lib.hid hle
    clear hsl hno hle
    go_wp2_with fail
    refine hK.out _ _ (blThen hHeld hb) (fun hHeldN => ?_)
    clear hHeld hb
    have hHeld := hHeldN
    clear hHeldN
    clear hK K
    try simp only [Act.put, List.setIfInBounds_toArray, List.set_cons_zero, List.set_cons_succ]
    refine wpAnyH_ready (rs := [32]) (by kernel_rfl) (by simp) ?_
    refine AllReadyH.cons (o := { dst := some 60, op := Op.call { callee := Callee.value (Operand.func 31), args := #[Operand.tmp 58, Operand.tmp 59], argTypes := #[31, 23] }, type := 31, pos := _, after := #[{ on := 30, ground := Ground.data }, { on := 31, ground := Ground.data }, { on := 29, ground := Ground.chain }, { on := 25, ground := Ground.guard }], guard := some (25, true) }) rfl (fun K hK => ?_) AllReadyH.nil
    go_simp
    refine (refbelow_any x1 d1 A t n _ (Nat.le_trans HLENA.out (by decide)) (HSLA.out.later hHeld)).mono ?_
    rw [HFE.out]
    rintro e w6 ⟨y9, y9d, rfl, hsl, hno, _, hle, _, hb⟩
    have HSy9 := Lib.hid hsl
    have HNy9 := Lib.hid hno
    have HDy9 := Lib.hid hle
    have HSz8 := Lib.hid (HSy8.out.later hb)
    clear hsl hno hle
    go_wp2_with fail
    refine hK.out _ _ (blThen hHeld hb) (fun hHeldN => ?_)
    clear hHeld hb
    have hHeld := hHeldN
    clear hHeldN
    clear hK K
    try simp only [Act.put, List.setIfInBounds_toArray, List.set_cons_zero, List.set_cons_succ]
    refine wpAnyH_ready (rs := [33]) (by kernel_rfl) (by simp) ?_
    refine AllReadyH.cons (o := { dst := some 61, op := Op.call { callee := Callee.value (Operand.func 25), args := #[Operand.tmp 57, Operand.tmp 60], argTypes := #[31, 31] }, type := 4, pos := _, after := #[{ on := 29, ground := Ground.data }, { on := 32, ground := Ground.data }, { on := 32, ground := Ground.chain }, { on := 25, ground := Ground.guard }], guard := some (25, true) }) rfl (fun K hK => ?_) AllReadyH.nil
    go_simp
    refine (same_yes y8 y9 y8d y9d FF _ (Nat.le_trans HLENF.out (by decide)) HSz8.out HSy9.out).mono ?_
    rintro e w6 ⟨rfl, hb⟩
    go_wp2_with fail
    refine hK.out _ _ (blThen hHeld hb) (fun hHeldN => ?_)
    clear hHeld hb
    have hHeld := hHeldN
    clear hHeldN
    clear hK K
    try simp only [Act.put, List.setIfInBounds_toArray, List.set_cons_zero, List.set_cons_succ]
    refine wpAnyH_take (i := 34) (oi := { dst := some 62, op := Op.pick (Operand.tmp 53) (Operand.tmp 61) (Operand.const (Value.bool false)), type := 4, pos := _, after := #[{ on := 25, ground := Ground.data }, { on := 33, ground := Ground.data }], guard := none }) (v := ?v34x20) rfl (by kernel_rfl) (by kernel_rfl) (by kernel_rfl) (fun _ _ _ h => h) (Or.inl ⟨by rfl, ?hy34x20⟩) hHeld ?rest34x20
    case hy34x20 => (intro w' hSw; go_simp; try with_reducible rfl)
    try simp only [Act.put, List.setIfInBounds_toArray, List.set_cons_zero, List.set_cons_succ]
    refine wpAnyH_take (i := 35) (oi := { dst := some 63, op := Op.move (Operand.tmp 62), type := 4, pos := _, after := #[{ on := 34, ground := Ground.data }, { on := 33, ground := Ground.chain }], guard := none }) (v := ?v35x21) rfl (by kernel_rfl) (by kernel_rfl) (by kernel_rfl) (fun _ _ _ h => h) (Or.inl ⟨by rfl, ?hy35x21⟩) hHeld ?rest35x21
    case hy35x21 => (intro w' hSw; go_simp; try with_reducible rfl)
    try simp only [Act.put, List.setIfInBounds_toArray, List.set_cons_zero, List.set_cons_succ]
    refine wpAnyH_ready (rs := [36]) (by kernel_rfl) (by simp) ?_
    refine AllReadyH.cons (o := { dst := some 64, op := Op.call { callee := Callee.value (Operand.func 27), args := #[Operand.const (Value.slice none 0 0)], argTypes := #[74] }, type := 31, pos := _, after := #[{ on := 35, ground := Ground.chain }, { on := 35, ground := Ground.guard }], guard := some (35, true) }) rfl (fun K hK => ?_) AllReadyH.nil
    go_simp
    refine (merge_none _).mono ?_
    rintro e w6 ⟨rfl, rfl⟩
    go_wp2_with fail
    refine hK.out _ _ hHeld (fun hHeldN => ?_)
    clear hHeldN
    clear hK K
    try simp only [Act.put, List.setIfInBounds_toArray, List.set_cons_zero, List.set_cons_succ]
    refine wpAnyH_ready (rs := [37]) (by kernel_rfl) (by simp) ?_
    refine AllReadyH.cons (o := { dst := some 65, op := Op.call { callee := Callee.value (Operand.func 25), args := #[Operand.tmp 64, Operand.const (Value.slice none 0 0)], argTypes := #[31, 31] }, type := 4, pos := _, after := #[{ on := 36, ground := Ground.data }, { on := 36, ground := Ground.chain }, { on := 35, ground := Ground.guard }], guard := some (35, true) }) rfl (fun K hK => ?_) AllReadyH.nil
    go_simp
    refine (same_yes none none 0 0 [] _ (by simp) (SL.nil_ok _ _) (SL.nil_ok _ _)).mono ?_
    rintro e w6 ⟨rfl, hb⟩
    go_wp2_with fail
    refine hK.out _ _ (blThen hHeld hb) (fun hHeldN => ?_)
    clear hHeld hb
    have hHeld := hHeldN
    clear hHeldN
    clear hK K
    try simp only [Act.put, List.setIfInBounds_toArray, List.set_cons_zero, List.set_cons_succ]
    refine wpAnyH_take (i := 38) (oi := { dst := some 66, op := Op.pick (Operand.tmp 63) (Operand.tmp 65) (Operand.const (Value.bool false)), type := 4, pos := _, after := #[{ on := 35, ground := Ground.data }, { on := 37, ground := Ground.data }], guard := none }) (v := ?v38x22) rfl (by kernel_rfl) (by kernel_rfl) (by kernel_rfl) (fun _ _ _ h => h) (Or.inl ⟨by rfl, ?hy38x22⟩) hHeld ?rest38x22
    case hy38x22 => (intro w' hSw; go_simp; try with_reducible rfl)
    try simp only [Act.put, List.setIfInBounds_toArray, List.set_cons_zero, List.set_cons_succ]
    refine wpAnyH_take (i := 39) (oi := { dst := some 67, op := Op.move (Operand.tmp 66), type := 4, pos := _, after := #[{ on := 38, ground := Ground.data }, { on := 37, ground := Ground.chain }], guard := none }) (v := ?v39x23) rfl (by kernel_rfl) (by kernel_rfl) (by kernel_rfl) (fun _ _ _ h => h) (Or.inl ⟨by rfl, ?hy39x23⟩) hHeld ?rest39x23
    case hy39x23 => (intro w' hSw; go_simp; try with_reducible rfl)
    try simp only [Act.put, List.setIfInBounds_toArray, List.set_cons_zero, List.set_cons_succ]
    refine wpAnyH_ready (rs := [40]) (by kernel_rfl) (by simp) ?_
    refine AllReadyH.cons (o := { dst := some 68, op := Op.call { callee := Callee.value (Operand.func 18), args := #[], argTypes := #[] }, type := 4, pos := _, after := #[{ on := 39, ground := Ground.chain }, { on := 39, ground := Ground.guard }], guard := some (39, true) }) rfl (fun K hK => ?_) AllReadyH.nil
    go_simp
    refine (live_any _).mono ?_
    rintro e w6 ⟨rfl, hb⟩
    go_wp2_with fail
    refine hK.out _ _ (blThen hHeld hb) (fun hHeldN => ?_)
    clear hHeld hb
    have hHeld := hHeldN
    clear hHeldN
    clear hK K
    try simp only [Act.put, List.setIfInBounds_toArray, List.set_cons_zero, List.set_cons_succ]
    refine wpAnyH_take (i := 41) (oi := { dst := some 69, op := Op.pick (Operand.tmp 67) (Operand.tmp 68) (Operand.const (Value.bool false)), type := 4, pos := _, after := #[{ on := 39, ground := Ground.data }, { on := 40, ground := Ground.data }], guard := none }) (v := ?v41x24) rfl (by kernel_rfl) (by kernel_rfl) (by kernel_rfl) (fun _ _ _ h => h) (Or.inl ⟨by rfl, ?hy41x24⟩) hHeld ?rest41x24
    case hy41x24 => (intro w' hSw; go_simp; try with_reducible rfl)
    try simp only [Act.put, List.setIfInBounds_toArray, List.set_cons_zero, List.set_cons_succ]
    refine wpAnyH_take (i := 42) (oi := { dst := some 6, op := Op.assign (Operand.tmp 69), type := 4, pos := _, after := #[{ on := 41, ground := Ground.data }, { on := 40, ground := Ground.chain }, { on := 0, ground := Ground.phase }, { on := 1, ground := Ground.phase }, { on := 2, ground := Ground.phase }, { on := 3, ground := Ground.phase }, { on := 4, ground := Ground.phase }, { on := 5, ground := Ground.phase }, { on := 6, ground := Ground.phase }, { on := 7, ground := Ground.phase }, { on := 8, ground := Ground.phase }, { on := 9, ground := Ground.phase }, { on := 10, ground := Ground.phase }, { on := 11, ground := Ground.phase }, { on := 12, ground := Ground.phase }, { on := 13, ground := Ground.phase }, { on := 14, ground := Ground.phase }, { on := 15, ground := Ground.phase }, { on := 16, ground := Ground.phase }, { on := 17, ground := Ground.phase }, { on := 18, ground := Ground.phase }, { on := 19, ground := Ground.phase }, { on := 20, ground := Ground.phase }, { on := 21, ground := Ground.phase }, { on := 22, ground := Ground.phase }, { on := 23, ground := Ground.phase }, { on := 24, ground := Ground.phase }, { on := 25, ground := Ground.phase }, { on := 26, ground := Ground.phase }, { on := 27, ground := Ground.phase }, { on := 28, ground := Ground.phase }, { on := 29, ground := Ground.phase }, { on := 30, ground := Ground.phase }, { on := 31, ground := Ground.phase }, { on := 32, ground := Ground.phase }, { on := 33, ground := Ground.phase }, { on := 34, ground := Ground.phase }, { on := 35, ground := Ground.phase }, { on := 36, ground := Ground.phase }, { on := 37, ground := Ground.phase }, { on := 38, ground := Ground.phase }, { on := 39, ground := Ground.phase }, { on := 40, ground := Ground.phase }, { on := 41, ground := Ground.phase }], guard := none }) (v := ?v42x25) rfl (by kernel_rfl) (by kernel_rfl) (by kernel_rfl) (fun _ _ _ h => h) (Or.inl ⟨by rfl, ?hy42x25⟩) hHeld ?rest42x25
    case hy42x25 => (intro w' hSw; go_simp; try with_reducible rfl)
    try simp only [Act.put, List.setIfInBounds_toArray, List.set_cons_zero, List.set_cons_succ]
    refine wpAnyH_done (by kernel_rfl) ?_ _
    go_wp2
    go_ret
    exact ⟨rfl, blThen HB5.out hHeld⟩


set_option maxRecDepth 100000 in
theorem stampLists_lifted (os : Os) (started : os.Started) (H : Type) (enc : TypeId × Value → H) :
    ReturnsInHanded {} Try.checked os 5 .any (Rows.stampListsSpec.pre6 enc Try.prog Try.f5 Rows.stampListsRow.domain false) (Rows.stampListsSpec.post enc Try.prog Try.f5 false true false false) := by
  refine law_lift (C := Try.checked) own0 started (by kernel_rfl) Try.func5 laid0 rfl (by kernel_rfl) (fun _ _ _ _ => trodAll_mk1 (shut_bool Try.underlying4 true)) (fun ds h => match ds, h with | [_, _, _], _ => ⟨rfl, rfl, rfl⟩)
    (ChangeSpec.witness6 (enc := enc) (C := Try.checked) false ⟨#[], #[.slice none 0 0, .slice none 0 0, .agg #[.int .i64 0, .int .i64 0]], []⟩ 8 (by kernel_rfl) (by kernel_rfl) (by kernel_rfl) (by kernel_rfl)) ?_
  intro W base args ds before hval0 hA0 hlt
  have hval : ∀ (j : Nat) t v, Try.f5.params[j]? = some t → args[j]? = some v → Value.okWide Try.prog W .any base t v := hval0
  have hA : DataW.TrodAll enc Try.prog W 0 (fun _ => true) true Try.f5.params.toList args.toList ds before := hA0
  rw [Try.params5] at hA hval
  obtain ⟨v0, v1, v2, d0, d1, d2, p0, p1, p2, rfl, rfl, rfl, h0, h1, h2⟩ := trodAll_three hA
  obtain ⟨a1, l, c1, rfl, hl0, hm0, hn0, hb0, hw0⟩ := open_stamps (hval 0 31 v0 rfl rfl) h0
  obtain ⟨a2, m, c2, rfl, hl1, hm1, hn1, hb1, hw1⟩ := open_stamps (hval 1 31 v1 rfl rfl) h1
  obtain ⟨t, n, rfl, _, _⟩ := open_stamp (hval 2 23 v2 rfl rfl) h2
  exact stampLists_walk a1 a2 c1 c2 l m t n W hl0 hl1 hn0 hn1 hm0 hm1

theorem stampLists_holds : Rows.StampListsSaid :=
  OpenClaim.holds_of_wide 5 Try.f5 rfl rfl rfl rfl rfl rfl rfl ⟨rfl, rfl, rfl, rfl, rfl⟩ rfl rfl rfl rfl rfl (by kernel_rfl) Try.func5 (by kernel_rfl)
    (of_decide_eq_true (by kernel_rfl)) (by unfold Func.isWrapper; rw [if_neg (of_decide_eq_false (by kernel_rfl))]; exact ⟨rfl, rfl⟩)
    (fun os started H enc _ => stampLists_lifted os started H enc)

#print axioms stampLists_holds

end Go.Proofs.Ytnicdbkjgicliaa
