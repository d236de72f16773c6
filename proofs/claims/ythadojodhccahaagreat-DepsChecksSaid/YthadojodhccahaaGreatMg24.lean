/- The reference's eye reads stamps; what it hands out is the call's own. Conditions: at most 20000 bytes. -/
import Derived.Deep.RegionHeld3
import Derived.Test.YthadojodhccahaaGreatMg23
/- The reference's eye: Stamp. Conditions: as each theorem states. -/
namespace Go.Proofs.YthadojodhccahaaGreat
namespace S2
open Go.RowKit Go.Deep

theorem RAt.lt2 {w : World} {b g : Nat} {B : List UInt8} {i : Nat} {bl : Bool} (h : RAt w b g B i bl) (hne : B ≠ []) : g < w.heap.size := by
  obtain ⟨v, _, hb, _⟩ := h
  exact hb.lt hne
theorem rd_wrap (l : List UInt8) : rd l = IntKind.i64.wrap (leN (l.take 8)) := (IntWalk.i64_left _).symm
theorem sixteen_of {w : World} {g : Nat} {v : Value} {l : List UInt8} (h : Bs w g v l) (h16 : l.length = 16) :
    ∃ o cap, v = .slice (some ⟨g, o, none⟩) 16 cap ∧ 16 ≤ cap ∧ cap ≤ 9223372036854775807 ∧ Bs w g (.slice (some ⟨g, o, none⟩) 8 cap) (l.take 8) ∧ Bs w g (.slice (some ⟨g, o + 8, none⟩) 8 (cap - 8)) (l.drop 8) := by
  rcases h with ⟨_, h⟩ | ⟨o, cap, rfl, h1, h2, h3⟩
  · subst h; cases h16
  · have hd := bs_drop (n := 8) h1 h2 h3
    rw [h16] at hd
    exact ⟨o, cap, by rw [h16], by omega, h2, bs_take h1 h2 h3 (by omega), hd⟩

set_option maxRecDepth 100000 in
set_option maxHeartbeats 400000 in
theorem rStamp_yes (w : World) (b g : Nat) (B : List UInt8) (i : Nat) (he : RAt w b g B i false) (h : i + 16 ≤ B.length) :
    Calls Tryz.prog 97 #[.pointer (some ⟨b, 0, none⟩)] w (RSeen w b g B false (.agg #[.int .i64 (rd (B.drop i)), .int .i64 (rd ((B.drop i).drop 8))]) (i + 16)) := by
  have HE := Lib.hid he
  clear he
  have v2 : rd ((B.drop i).drop 8) = rd (B.drop (i + 8)) := by rw [List.drop_drop]
  rw [v2, rd_wrap, rd_wrap]
  clear v2
  go_enter Tryz.func97, Tryz.ntmps97
  go_wp2_with fail
  have hA : Keeps (fun _ => False) w (w.alloc (Obj.cells #[Value.int IntKind.i64 0, Value.int IntKind.i64 0] 42)) := Keeps.alloc _ _ _
  refine (rtake_yes _ b g B i 16 (HE.out.before hA) (by omega) h).mono ?_
  rintro e w1 ⟨v1, rfl, hb1, he1, hk1⟩
  obtain ⟨o, cap, rfl, hc1, hc2, ha, hc⟩ := sixteen_of hb1 (by rw [List.length_take, List.length_drop]; omega)
  have e1 : ((B.drop i).take 16).take 8 = (B.drop i).take 8 := by rw [List.take_take]; rfl
  have e2 : ((B.drop i).take 16).drop 8 = (B.drop (i + 8)).take 8 := by rw [List.drop_take, List.drop_drop]
  rw [e1] at ha
  rw [e2] at hc
  have HA := Lib.hid (ha.keep (S := fun _ => False) (Keeps.drew _ w1) (fun _ h => h))
  have HC := Lib.hid (hc.keep (S := fun _ => False) (Keeps.drew _ w1) (fun _ h => h))
  obtain ⟨r0, r1, rf0, rf1, s0, s1, hk2, hk12⟩ := res2 hk1 (kNew HE.out.lt 0) (IntKind.i64.wrap (leN ((B.drop i).take 8))) (IntKind.i64.wrap (leN ((B.drop (i + 8)).take 8)))
  have HE2 := Lib.hid ((he1.keep hk12 (fun h => absurd HE.out.lt (by omega)) (fun hne h => absurd (HE.out.lt2 hne) (by omega))).before (Keeps.drew _ _))
  have HK2 := Lib.hid (hk2.then (Keeps.drew _ _))
  have L1 : ((B.drop i).take 8).length ≤ 8 := by rw [List.length_take]; omega
  have L2 : ((B.drop (i + 8)).take 8).length ≤ 8 := by rw [List.length_take]; omega
  have i1 : (8 : Int) ≤ (cap : Int) := by omega
  have i2 : (16 : Int) ≤ (cap : Int) := by omega
  have i3 : 8 ≤ cap := by omega
  clear hk1 hk2 hk12 hA e1 e2 ha hc hb1 he1
  go_wp2_with fail
  go_region_held3 (fun _ => True) (trivial) (first | (go_at_call 96; with_reducible refine (rnumber_any _ g _ _ HA.out L1).mono ?_; rintro e w ⟨rfl, rfl⟩) | (go_at_call 96; with_reducible refine (rnumber_any _ g _ _ HC.out L2).mono ?_; rintro e w ⟨rfl, rfl⟩))
  all_goals
    go_wp2
    exact bodyPost_ret (v := .agg #[.int .i64 (IntKind.i64.wrap (leN ((B.drop i).take 8))), .int .i64 (IntKind.i64.wrap (leN ((B.drop (i + 8)).take 8)))]) (by simp [results, Tryz.results97, go_sem, s0, s1]) rfl ⟨rfl, HE2.out, HK2.out⟩

set_option maxRecDepth 100000 in
set_option maxHeartbeats 2000000 in
theorem rStamp_any (w : World) (b g : Nat) (B : List UInt8) (i : Nat) (bl : Bool) (he : RAt w b g B i bl) :
    Calls Tryz.prog 97 #[.pointer (some ⟨b, 0, none⟩)] w (RSeen w b g B (!okS (B.drop i) bl) (.agg #[.int .i64 (valS (B.drop i) bl).1, .int .i64 (valS (B.drop i) bl).2]) (stepN (okS (B.drop i) bl) 16 i)) := by
  have HE := Lib.hid he
  have hl : (B.drop i).length = B.length - i := List.length_drop
  cases bl
  · by_cases h : 16 ≤ (B.drop i).length
    · have hok : okS (B.drop i) false = true := by simp only [okS, Bool.not_false, Bool.true_and, decide_eq_true_eq]; exact h
      have hv : valS (B.drop i) false = (rd (B.drop i), rd ((B.drop i).drop 8)) := by simp [valS, hok, rdS]
      have hs : stepN true 16 i = i + 16 := rfl
      rw [hv, hok, hs]
      exact rStamp_yes w b g B i he (by omega)
    · have hok : okS (B.drop i) false = false := by simp only [okS, Bool.not_false, Bool.true_and, decide_eq_false_iff_not]; exact h
      have hv : valS (B.drop i) false = (0, 0) := by simp [valS, hok]
      have hs : stepN false 16 i = i := rfl
      rw [hv, hok, hs]
      clear hv hok hs he
      go_enter Tryz.func97, Tryz.ntmps97
      go_wp2_with fail
      have hA : Keeps (fun _ => False) w (w.alloc (Obj.cells #[Value.int IntKind.i64 0, Value.int IntKind.i64 0] 42)) := Keeps.alloc _ _ _
      refine (rtake_no _ b g B i 16 (HE.out.before hA) (by omega)).mono ?_
      rintro e w1 ⟨rfl, he1, hk1⟩
      obtain ⟨r0, r1, rf0, rf1, s0, s1, hk2, hk12⟩ := res2 hk1 (kNew HE.out.lt 0) (0) (0)
      have HE2 := Lib.hid (he1.keep hk12 (fun h => absurd HE.out.lt (by omega)) (fun hne h => absurd (HE.out.lt2 hne) (by omega)))
      have HK2 := Lib.hid hk2
      clear hk1 hk2 hk12 hA
      go_wp2
      exact bodyPost_ret (v := .agg #[.int .i64 (0), .int .i64 (0)]) (by simp [results, Tryz.results97, go_sem, s0, s1]) rfl ⟨rfl, HE2.out, HK2.out⟩
  · have hok : okS (B.drop i) true = false := by simp [okS]
    have hv : valS (B.drop i) true = (0, 0) := by simp [valS, hok]
    have hs : stepN false 16 i = i := rfl
    rw [hv, hok, hs]
    clear hv hok hs he
    go_enter Tryz.func97, Tryz.ntmps97
    go_wp2_with fail
    have hA : Keeps (fun _ => False) w (w.alloc (Obj.cells #[Value.int IntKind.i64 0, Value.int IntKind.i64 0] 42)) := Keeps.alloc _ _ _
    refine (rtake_blind _ b g B i 16 (HE.out.before hA)).mono ?_
    rintro e w1 ⟨rfl, he1, hk1⟩
    obtain ⟨r0, r1, rf0, rf1, s0, s1, hk2, hk12⟩ := res2 hk1 (kNew HE.out.lt 0) (0) (0)
    have HE2 := Lib.hid (he1.keep hk12 (fun h => absurd HE.out.lt (by omega)) (fun hne h => absurd (HE.out.lt2 hne) (by omega)))
    have HK2 := Lib.hid hk2
    clear hk1 hk2 hk12 hA
    go_wp2
    exact bodyPost_ret (v := .agg #[.int .i64 (0), .int .i64 (0)]) (by simp [results, Tryz.results97, go_sem, s0, s1]) rfl ⟨rfl, HE2.out, HK2.out⟩

end S2
end Go.Proofs.YthadojodhccahaaGreat

/- The reference's eye: Stamps. Conditions: as each theorem states. -/
namespace Go.Proofs.YthadojodhccahaaGreat
namespace S2
open Go.RowKit Go.Deep

/-- What Stamps of the reference's eye comes to. -/
def RSeenSl (w : World) (b g : Nat) (B : List UInt8) (bl : Bool) (s : List (Int × Int)) (i : Nat) (e : Ending) (w' : World) : Prop :=
  ∃ a c h, e = .returned (.slice a s.length c) ∧ SL w' h a s ∧ w.heap.size ≤ h ∧ RAt w' b g B i bl ∧ Keeps (Only b) w w'
theorem rInt_yes (w : World) (b g : Nat) (B : List UInt8) (i : Nat) (he : RAt w b g B i false) (h : i + 8 ≤ B.length) : Calls Tryz.prog 76 #[.pointer (some ⟨b, 0, none⟩)] w (RSeen w b g B false (.int .i64 (rd (B.drop i))) (i + 8)) := by
  have hh := rInt_any w b g B i false he
  have hok : okI (B.drop i) false = true := by simp [okI]; omega
  have hv : valI (B.drop i) false = rd (B.drop i) := by simp [valI, hok]
  rw [hok, hv] at hh
  exact hh
theorem rInt_no (w : World) (b g : Nat) (B : List UInt8) (i : Nat) (bl : Bool) (he : RAt w b g B i bl) (hok : okI (B.drop i) bl = false) : Calls Tryz.prog 76 #[.pointer (some ⟨b, 0, none⟩)] w (RSeen w b g B true (.int .i64 0) i) := by
  have hh := rInt_any w b g B i bl he
  have hv : valI (B.drop i) bl = 0 := by simp [valI, hok]
  rw [hok, hv] at hh
  exact hh

set_option maxRecDepth 100000 in
set_option maxHeartbeats 1000000 in
theorem rStamps_none (w : World) (b g : Nat) (B : List UInt8) (i : Nat) (bl : Bool) (he : RAt w b g B i bl) (hok : okI (B.drop i) bl = false) :
    Calls Tryz.prog 77 #[.pointer (some ⟨b, 0, none⟩)] w (RSeenSl w b g B true [] i) := by
  have HE := Lib.hid he
  have HO := Lib.hid hok
  obtain ⟨a, c, _, c0, c1, c2, f1, f2, hlt, hi, hB⟩ := he.cells
  clear he hok
  go_enter Tryz.func77, Tryz.ntmps77
  go_wp2_with (go_at_call 76; refine (rInt_no _ b g B i bl HE.out HO.out).mono ?_; rintro e w1 ⟨rfl, he1, hk1⟩; have HE1 := Lib.hid he1; have HK1 := Lib.hid hk1; clear he1 hk1; obtain ⟨a3, c3, _, d0, d1, d2, r1, r2, hlt3, _, _⟩ := HE1.out.cells)
  go_ret
  exact ⟨none, 0, w.heap.size, rfl, fun h => absurd rfl h, Nat.le_refl _, HE1.out, HK1.out⟩

set_option maxRecDepth 100000 in
set_option maxHeartbeats 1000000 in
theorem rStamps_neg (w : World) (b g : Nat) (B : List UInt8) (i : Nat) (m : Int) (he : RAt w b g B i false) (h8 : i + 8 ≤ B.length) (hm : rd (B.drop i) = m) (hneg : m < 0) :
    Calls Tryz.prog 77 #[.pointer (some ⟨b, 0, none⟩)] w (RSeenSl w b g B true [] i) := by
  have HE := Lib.hid he
  have HM := Lib.hid hm
  obtain ⟨a, c, _, c0, c1, c2, f1, f2, hlt, hi, hB⟩ := he.cells
  clear he hm
  have hd1 : decide (m < 0) = true := by simpa using hneg
  go_enter Tryz.func77, Tryz.ntmps77
  go_wp2_with (go_at_call 76; refine (rInt_yes _ b g B i HE.out h8).mono ?_; rintro e w1 ⟨rfl, he1, hk1⟩; rw [HM.out]; have HE1 := Lib.hid he1; have HK1 := Lib.hid hk1; clear he1 hk1; obtain ⟨a3, c3, _, d0, d1, d2, r1, r2, hlt3, _, _⟩ := HE1.out.cells; rw [Int.natCast_add] at d1)
  refine region_aft (by kernel_rfl) (by kernel_rfl) ?_
  repeat (go_big_quiet_step (fail))
  refine wpQuiet_nil ?_
  rintro w2 ⟨z, rfl⟩
  obtain ⟨hx, hk⟩ := resetDim (HE1.out.before (aftK z)) hi (HK1.out.then (aftK z))
  have HX := Lib.hid hx
  have HK := Lib.hid hk
  clear hx hk
  go_wp2
  go_ret
  exact ⟨none, 0, w.heap.size, rfl, fun h => absurd rfl h, Nat.le_refl _, HX.out, HK.out⟩

set_option maxRecDepth 100000 in
set_option maxHeartbeats 1000000 in
theorem rStamps_far (w : World) (b g : Nat) (B : List UInt8) (i m : Nat) (he : RAt w b g B i false) (h8 : i + 8 ≤ B.length) (hm : rd (B.drop i) = (m : Int)) (hfar : B.length < i + 8 + 16 * m) :
    Calls Tryz.prog 77 #[.pointer (some ⟨b, 0, none⟩)] w (RSeenSl w b g B true [] i) := by
  have HE := Lib.hid he
  have HM := Lib.hid hm
  obtain ⟨a, c, _, c0, c1, c2, f1, f2, hlt, hi, hB⟩ := he.cells
  clear he hm
  have hd1 : decide ((m : Int) < 0) = false := by simp
  have hd2 : decide (((B.length : Int) - ((i : Int) + 8)) / 16 < (m : Int)) = true := by simp; omega
  have ht : ((B.length : Int) - ((i : Int) + 8)).tdiv 16 = ((B.length : Int) - ((i : Int) + 8)) / 16 := Int.tdiv_eq_ediv_of_nonneg (by omega)
  have hd3 : decide (((B.length : Int) - ((i : Int) + 8)).tdiv 16 < (m : Int)) = true := by rw [ht]; exact hd2
  go_enter Tryz.func77, Tryz.ntmps77
  go_wp2_with (go_at_call 76; refine (rInt_yes _ b g B i HE.out h8).mono ?_; rintro e w1 ⟨rfl, he1, hk1⟩; rw [HM.out]; have HE1 := Lib.hid he1; have HK1 := Lib.hid hk1; clear he1 hk1; obtain ⟨a3, c3, _, d0, d1, d2, r1, r2, hlt3, _, _⟩ := HE1.out.cells; rw [Int.natCast_add] at d1)
  refine region_aft (by kernel_rfl) (by kernel_rfl) ?_
  repeat (go_big_quiet_step (fail))
  refine wpQuiet_nil ?_
  rintro w2 ⟨z, rfl⟩
  obtain ⟨hx, hk⟩ := resetDim (HE1.out.before (aftK z)) hi (HK1.out.then (aftK z))
  have HX := Lib.hid hx
  have HK := Lib.hid hk
  clear hx hk
  go_wp2
  go_ret
  exact ⟨none, 0, w.heap.size, rfl, fun h => absurd rfl h, Nat.le_refl _, HX.out, HK.out⟩

set_option maxRecDepth 100000 in
set_option maxHeartbeats 2000000 in
theorem rStamps_yes (w : World) (b g : Nat) (B : List UInt8) (i m : Nat) (he : RAt w b g B i false) (h8 : i + 8 ≤ B.length) (hm : rd (B.drop i) = (m : Int)) (hfit : i + 8 + 16 * m ≤ B.length) :
    Calls Tryz.prog 77 #[.pointer (some ⟨b, 0, none⟩)] w (RSeenSl w b g B false (rdL (B.drop i) m) (i + (8 + 16 * m))) := by
  have HE := Lib.hid he
  have HM := Lib.hid hm
  obtain ⟨a, c, _, c0, c1, c2, f1, f2, hlt, hi, hB⟩ := he.cells
  clear he hm
  have hd1 : decide ((m : Int) < 0) = false := by simp
  have hd2 : decide (((B.length : Int) - ((i : Int) + 8)) / 16 < (m : Int)) = false := by simp; omega
  have ht : ((B.length : Int) - ((i : Int) + 8)).tdiv 16 = ((B.length : Int) - ((i : Int) + 8)) / 16 := Int.tdiv_eq_ediv_of_nonneg (by omega)
  have hd3 : decide (((B.length : Int) - ((i : Int) + 8)).tdiv 16 < (m : Int)) = false := by rw [ht]; exact hd2
  go_enter Tryz.func77, Tryz.ntmps77
  go_wp2_with (go_at_call 76; refine (rInt_yes _ b g B i HE.out h8).mono ?_; rintro e w1 ⟨rfl, he1, hk1⟩; rw [HM.out]; have HE1 := Lib.hid he1; have HK1 := Lib.hid hk1; clear he1 hk1; obtain ⟨a3, c3, _, d0, d1, d2, r1, r2, hlt3, _, _⟩ := HE1.out.cells; rw [Int.natCast_add] at d1)
  refine region_aft (by kernel_rfl) (by kernel_rfl) ?_
  repeat (go_big_quiet_step (fail))
  refine wpQuiet_nil ?_
  rintro w2 ⟨z, rfl⟩
  have HE2 : Hid (RAt z.x b g B (i + (8 + 16 * 0)) false) := HE1.out.before (aftK z)
  have HK2 : Hid (Keeps (Only b) w z.x) := HK1.out.then (aftK z)
  have HBN : Hid (∀ x, w.heap.size ≤ x → ¬ Only b x) := fun x hx h => absurd HE.out.lt (by have h' : x = b := h; omega)
  clear c0 c1 c2 f1 f2 d0 d1 d2 r1 r2 hlt3 hd1 hd2 hd3 ht
  go_wp2_with fail
  go_loopw [5, 6] (fun v i' wr => ∃ j : Nat, j ≤ m ∧ i' = .int .i64 j ∧ OwnL wr w.heap.size v (rdL (B.drop i) j) ∧ RAt wr b g B (i + (8 + 16 * j)) false ∧ Keeps (Only b) w wr) (fun _ i' _ => m - (intOf i').toNat)
  case atStart => exact ⟨0, Nat.zero_le _, rfl, World.ownsRow_nil _ _ _ _, HE2.out, HK2.out⟩
  case round =>
    obtain ⟨j, hj, rfl, hown, hej, hkj⟩ := hrel
    have HO := Lib.hid hown
    have HEJ := Lib.hid hej
    have HKJ := Lib.hid hkj
    clear hown hej hkj
    by_cases hlt2 : j < m
    · have HLen : Hid ((rdL (B.drop i) j).length ≤ 400000) := by show _ ≤ _; rw [rdL_length]; omega
      have HD : Hid (i + (8 + 16 * j) + 16 = i + (8 + 16 * (j + 1))) := by show _ = _; omega
      have HF : Hid (i + (8 + 16 * j) + 16 ≤ B.length) := by show _ ≤ _; omega
      go_wp2_with (first | (go_at_call 97; refine (rStamp_yes _ b g B _ HEJ.out HF.out).mono ?_; rintro e w2 ⟨rfl, he2, hk2⟩; have HO2 := Lib.hid (HO.out.keep hk2 HBN.out); have HE2 := Lib.hid he2; have HK2 := Lib.hid (HKJ.out.then hk2); clear he2 hk2) | (at_builtin; refine append_one rfl (.tmp 46) (.tmp 49) rfl w.heap.size _ (rdL (B.drop i) j) _ _ rfl HO2.out rfl rfl HLen.out HK2.out.size ?_; intro v3 w3 h1 h2; have HO3 := Lib.hid h1; have HK3 := Lib.hid h2; clear h1 h2))
      go_roundw
      case rel => exact ⟨j + 1, hlt2, by go_num, by rw [rdL_succ]; unfold rdS; rw [List.drop_drop, List.drop_drop]; exact HO3.out, by rw [← HD.out]; exact HE2.out.keep HK3.out (fun h => HBN.out _ h rfl) (fun hne h => absurd (HE.out.lt2 hne) (by omega)), HK2.out.trans HK3.out (fun x hx h => absurd h (by omega))⟩
      case measure => simp [intOf]; omega
    · obtain rfl : j = m := by omega
      obtain ⟨a5, c5, x5, rfl, hs5, hx5⟩ := HO.out.sl
      have HS5 := Lib.hid hs5
      clear hs5
      go_wp2
      go_ret
      exact ⟨a5, c5, x5, rfl, HS5.out, hx5, HEJ.out, HKJ.out⟩

theorem rStamps_any (w : World) (b g : Nat) (B : List UInt8) (i : Nat) (bl : Bool) (he : RAt w b g B i bl) :
    Calls Tryz.prog 77 #[.pointer (some ⟨b, 0, none⟩)] w (RSeenSl w b g B (!okL (B.drop i) bl) (valL (B.drop i) bl) (stepN (okL (B.drop i) bl) (8 + 16 * (rd (B.drop i)).toNat) i)) := by
  obtain ⟨_, _, _, _, _, _, _, _, _, hi, _⟩ := he.cells
  have hl : (B.drop i).length = B.length - i := List.length_drop
  have hno : okL (B.drop i) bl = false → Calls Tryz.prog 77 #[.pointer (some ⟨b, 0, none⟩)] w (RSeenSl w b g B true [] i) → Calls Tryz.prog 77 #[.pointer (some ⟨b, 0, none⟩)] w (RSeenSl w b g B (!okL (B.drop i) bl) (valL (B.drop i) bl) (stepN (okL (B.drop i) bl) (8 + 16 * (rd (B.drop i)).toNat) i)) := by
    intro hok h
    have hv : valL (B.drop i) bl = [] := by simp [valL, hok]
    rw [hok, hv]
    exact h
  by_cases hI : okI (B.drop i) bl = false
  · refine hno ?_ (rStamps_none w b g B i bl he hI)
    unfold okI at hI
    unfold okL
    cases bl
    · simp only [Bool.not_false, Bool.true_and, decide_eq_false_iff_not] at hI ⊢
      exact fun h => hI h.1
    · rfl
  · have hI' : okI (B.drop i) bl = true := by simpa using hI
    unfold okI at hI'
    simp only [Bool.and_eq_true, Bool.not_eq_true', decide_eq_true_eq] at hI'
    obtain ⟨rfl, h8⟩ := hI'
    by_cases hneg : rd (B.drop i) < 0
    · refine hno ?_ (rStamps_neg w b g B i _ he (by omega) rfl hneg)
      simp only [okL, Bool.not_false, Bool.true_and, decide_eq_false_iff_not]
      exact fun h => by have := h.2.1; omega
    · obtain ⟨m, hm⟩ := Int.eq_ofNat_of_zero_le (a := rd (B.drop i)) (by omega)
      by_cases hfit : i + 8 + 16 * m ≤ B.length
      · have hok : okL (B.drop i) false = true := by
          simp only [okL, Bool.not_false, Bool.true_and, decide_eq_true_eq]
          exact ⟨h8, by omega, by rw [hm, Int.toNat_natCast]; omega⟩
        have hv : valL (B.drop i) false = rdL (B.drop i) m := by unfold valL; rw [if_pos hok, hm, Int.toNat_natCast]
        rw [hok, hv, hm, Int.toNat_natCast]
        exact rStamps_yes w b g B i m he (by omega) hm hfit
      · refine hno ?_ (rStamps_far w b g B i m he (by omega) hm (by omega))
        simp only [okL, Bool.not_false, Bool.true_and, decide_eq_false_iff_not]
        exact fun h => by have := h.2.2; rw [hm, Int.toNat_natCast] at this; omega

end S2
end Go.Proofs.YthadojodhccahaaGreat

/- The reference's eye reads stamps; what it hands out is the call's own. Conditions: at most 20000 bytes. -/
namespace Go.Proofs.YthadojodhccahaaGreat
namespace S2
open Go.RowKit Go.Deep

/-- What Stamps of the reference's eye comes to; the stamps lie in memory of the call's own. -/
def RSeenO (w : World) (b g : Nat) (B : List UInt8) (bl : Bool) (s : List (Int × Int)) (i : Nat) (e : Ending) (w' : World) : Prop :=
  ∃ v, e = .returned v ∧ OwnL w' w.heap.size v s ∧ RAt w' b g B i bl ∧ Keeps (Only b) w w'

set_option maxRecDepth 100000 in
set_option maxHeartbeats 1000000 in
theorem rStampsO_none (w : World) (b g : Nat) (B : List UInt8) (i : Nat) (bl : Bool) (he : RAt w b g B i bl) (hok : okI (B.drop i) bl = false) :
    Calls Tryz.prog 77 #[.pointer (some ⟨b, 0, none⟩)] w (RSeenO w b g B true [] i) := by
  have HE := Lib.hid he
  have HO := Lib.hid hok
  obtain ⟨a, c, _, c0, c1, c2, f1, f2, hlt, hi, hB⟩ := he.cells
  clear he hok
  go_enter Tryz.func77, Tryz.ntmps77
  go_wp2_with (go_at_call 76; refine (rInt_no _ b g B i bl HE.out HO.out).mono ?_; rintro e w1 ⟨rfl, he1, hk1⟩; have HE1 := Lib.hid he1; have HK1 := Lib.hid hk1; clear he1 hk1; obtain ⟨a3, c3, _, d0, d1, d2, r1, r2, hlt3, _, _⟩ := HE1.out.cells)
  go_ret
  exact ⟨_, rfl, World.ownsRow_nil _ _ _ _, HE1.out, HK1.out⟩

set_option maxRecDepth 100000 in
set_option maxHeartbeats 1000000 in
theorem rStampsO_neg (w : World) (b g : Nat) (B : List UInt8) (i : Nat) (m : Int) (he : RAt w b g B i false) (h8 : i + 8 ≤ B.length) (hm : rd (B.drop i) = m) (hneg : m < 0) :
    Calls Tryz.prog 77 #[.pointer (some ⟨b, 0, none⟩)] w (RSeenO w b g B true [] i) := by
  have HE := Lib.hid he
  have HM := Lib.hid hm
  obtain ⟨a, c, _, c0, c1, c2, f1, f2, hlt, hi, hB⟩ := he.cells
  clear he hm
  have hd1 : decide (m < 0) = true := by simpa using hneg
  go_enter Tryz.func77, Tryz.ntmps77
  go_wp2_with (go_at_call 76; refine (rInt_yes _ b g B i HE.out h8).mono ?_; rintro e w1 ⟨rfl, he1, hk1⟩; rw [HM.out]; have HE1 := Lib.hid he1; have HK1 := Lib.hid hk1; clear he1 hk1; obtain ⟨a3, c3, _, d0, d1, d2, r1, r2, hlt3, _, _⟩ := HE1.out.cells; rw [Int.natCast_add] at d1)
  refine region_aft (by kernel_rfl) (by kernel_rfl) ?_
  repeat (go_big_quiet_step (fail))
  refine wpQuiet_nil ?_
  rintro w2 ⟨z, rfl⟩
  obtain ⟨hx, hk⟩ := resetDim (HE1.out.before (aftK z)) hi (HK1.out.then (aftK z))
  have HX := Lib.hid hx
  have HK := Lib.hid hk
  clear hx hk
  go_wp2
  go_ret
  exact ⟨_, rfl, World.ownsRow_nil _ _ _ _, HX.out, HK.out⟩

set_option maxRecDepth 100000 in
set_option maxHeartbeats 1000000 in
theorem rStampsO_far (w : World) (b g : Nat) (B : List UInt8) (i m : Nat) (he : RAt w b g B i false) (h8 : i + 8 ≤ B.length) (hm : rd (B.drop i) = (m : Int)) (hfar : B.length < i + 8 + 16 * m) :
    Calls Tryz.prog 77 #[.pointer (some ⟨b, 0, none⟩)] w (RSeenO w b g B true [] i) := by
  have HE := Lib.hid he
  have HM := Lib.hid hm
  obtain ⟨a, c, _, c0, c1, c2, f1, f2, hlt, hi, hB⟩ := he.cells
  clear he hm
  have hd1 : decide ((m : Int) < 0) = false := by simp
  have hd2 : decide (((B.length : Int) - ((i : Int) + 8)) / 16 < (m : Int)) = true := by simp; omega
  have ht : ((B.length : Int) - ((i : Int) + 8)).tdiv 16 = ((B.length : Int) - ((i : Int) + 8)) / 16 := Int.tdiv_eq_ediv_of_nonneg (by omega)
  have hd3 : decide (((B.length : Int) - ((i : Int) + 8)).tdiv 16 < (m : Int)) = true := by rw [ht]; exact hd2
  go_enter Tryz.func77, Tryz.ntmps77
  go_wp2_with (go_at_call 76; refine (rInt_yes _ b g B i HE.out h8).mono ?_; rintro e w1 ⟨rfl, he1, hk1⟩; rw [HM.out]; have HE1 := Lib.hid he1; have HK1 := Lib.hid hk1; clear he1 hk1; obtain ⟨a3, c3, _, d0, d1, d2, r1, r2, hlt3, _, _⟩ := HE1.out.cells; rw [Int.natCast_add] at d1)
  refine region_aft (by kernel_rfl) (by kernel_rfl) ?_
  repeat (go_big_quiet_step (fail))
  refine wpQuiet_nil ?_
  rintro w2 ⟨z, rfl⟩
  obtain ⟨hx, hk⟩ := resetDim (HE1.out.before (aftK z)) hi (HK1.out.then (aftK z))
  have HX := Lib.hid hx
  have HK := Lib.hid hk
  clear hx hk
  go_wp2
  go_ret
  exact ⟨_, rfl, World.ownsRow_nil _ _ _ _, HX.out, HK.out⟩

set_option maxRecDepth 100000 in
set_option maxHeartbeats 2000000 in
theorem rStampsO_yes (w : World) (b g : Nat) (B : List UInt8) (i m : Nat) (he : RAt w b g B i false) (h8 : i + 8 ≤ B.length) (hm : rd (B.drop i) = (m : Int)) (hfit : i + 8 + 16 * m ≤ B.length) :
    Calls Tryz.prog 77 #[.pointer (some ⟨b, 0, none⟩)] w (RSeenO w b g B false (rdL (B.drop i) m) (i + (8 + 16 * m))) := by
  have HE := Lib.hid he
  have HM := Lib.hid hm
  obtain ⟨a, c, _, c0, c1, c2, f1, f2, hlt, hi, hB⟩ := he.cells
  clear he hm
  have hd1 : decide ((m : Int) < 0) = false := by simp
  have hd2 : decide (((B.length : Int) - ((i : Int) + 8)) / 16 < (m : Int)) = false := by simp; omega
  have ht : ((B.length : Int) - ((i : Int) + 8)).tdiv 16 = ((B.length : Int) - ((i : Int) + 8)) / 16 := Int.tdiv_eq_ediv_of_nonneg (by omega)
  have hd3 : decide (((B.length : Int) - ((i : Int) + 8)).tdiv 16 < (m : Int)) = false := by rw [ht]; exact hd2
  go_enter Tryz.func77, Tryz.ntmps77
  go_wp2_with (go_at_call 76; refine (rInt_yes _ b g B i HE.out h8).mono ?_; rintro e w1 ⟨rfl, he1, hk1⟩; rw [HM.out]; have HE1 := Lib.hid he1; have HK1 := Lib.hid hk1; clear he1 hk1; obtain ⟨a3, c3, _, d0, d1, d2, r1, r2, hlt3, _, _⟩ := HE1.out.cells; rw [Int.natCast_add] at d1)
  refine region_aft (by kernel_rfl) (by kernel_rfl) ?_
  repeat (go_big_quiet_step (fail))
  refine wpQuiet_nil ?_
  rintro w2 ⟨z, rfl⟩
  have HE2 : Hid (RAt z.x b g B (i + (8 + 16 * 0)) false) := HE1.out.before (aftK z)
  have HK2 : Hid (Keeps (Only b) w z.x) := HK1.out.then (aftK z)
  have HBN : Hid (∀ x, w.heap.size ≤ x → ¬ Only b x) := fun x hx h => absurd HE.out.lt (by have h' : x = b := h; omega)
  clear c0 c1 c2 f1 f2 d0 d1 d2 r1 r2 hlt3 hd1 hd2 hd3 ht
  go_wp2_with fail
  go_loopw [5, 6] (fun v i' wr => ∃ j : Nat, j ≤ m ∧ i' = .int .i64 j ∧ OwnL wr w.heap.size v (rdL (B.drop i) j) ∧ RAt wr b g B (i + (8 + 16 * j)) false ∧ Keeps (Only b) w wr) (fun _ i' _ => m - (intOf i').toNat)
  case atStart => exact ⟨0, Nat.zero_le _, rfl, World.ownsRow_nil _ _ _ _, HE2.out, HK2.out⟩
  case round =>
    obtain ⟨j, hj, rfl, hown, hej, hkj⟩ := hrel
    have HO := Lib.hid hown
    have HEJ := Lib.hid hej
    have HKJ := Lib.hid hkj
    clear hown hej hkj
    by_cases hlt2 : j < m
    · have HLen : Hid ((rdL (B.drop i) j).length ≤ 400000) := by show _ ≤ _; rw [rdL_length]; omega
      have HD : Hid (i + (8 + 16 * j) + 16 = i + (8 + 16 * (j + 1))) := by show _ = _; omega
      have HF : Hid (i + (8 + 16 * j) + 16 ≤ B.length) := by show _ ≤ _; omega
      go_wp2_with (first | (go_at_call 97; refine (rStamp_yes _ b g B _ HEJ.out HF.out).mono ?_; rintro e w2 ⟨rfl, he2, hk2⟩; have HO2 := Lib.hid (HO.out.keep hk2 HBN.out); have HE2 := Lib.hid he2; have HK2 := Lib.hid (HKJ.out.then hk2); clear he2 hk2) | (at_builtin; refine append_one rfl (.tmp 46) (.tmp 49) rfl w.heap.size _ (rdL (B.drop i) j) _ _ rfl HO2.out rfl rfl HLen.out HK2.out.size ?_; intro v3 w3 h1 h2; have HO3 := Lib.hid h1; have HK3 := Lib.hid h2; clear h1 h2))
      go_roundw
      case rel => exact ⟨j + 1, hlt2, by go_num, by rw [rdL_succ]; unfold rdS; rw [List.drop_drop, List.drop_drop]; exact HO3.out, by rw [← HD.out]; exact HE2.out.keep HK3.out (fun h => HBN.out _ h rfl) (fun hne h => absurd (HE.out.lt2 hne) (by omega)), HK2.out.trans HK3.out (fun x hx h => absurd h (by omega))⟩
      case measure => simp [intOf]; omega
    · obtain rfl : j = m := by omega
      obtain ⟨a5, c5, x5, rfl, hs5, hx5⟩ := HO.out.sl
      clear hs5 hx5
      go_wp2
      go_ret
      exact ⟨_, rfl, HO.out, HEJ.out, HKJ.out⟩

theorem rStampsO_any (w : World) (b g : Nat) (B : List UInt8) (i : Nat) (bl : Bool) (he : RAt w b g B i bl) :
    Calls Tryz.prog 77 #[.pointer (some ⟨b, 0, none⟩)] w (RSeenO w b g B (!okL (B.drop i) bl) (valL (B.drop i) bl) (stepN (okL (B.drop i) bl) (8 + 16 * (rd (B.drop i)).toNat) i)) := by
  obtain ⟨_, _, _, _, _, _, _, _, _, hi, _⟩ := he.cells
  have hl : (B.drop i).length = B.length - i := List.length_drop
  have hno : okL (B.drop i) bl = false → Calls Tryz.prog 77 #[.pointer (some ⟨b, 0, none⟩)] w (RSeenO w b g B true [] i) → Calls Tryz.prog 77 #[.pointer (some ⟨b, 0, none⟩)] w (RSeenO w b g B (!okL (B.drop i) bl) (valL (B.drop i) bl) (stepN (okL (B.drop i) bl) (8 + 16 * (rd (B.drop i)).toNat) i)) := by
    intro hok h
    have hv : valL (B.drop i) bl = [] := by simp [valL, hok]
    rw [hok, hv]
    exact h
  by_cases hI : okI (B.drop i) bl = false
  · refine hno ?_ (rStampsO_none w b g B i bl he hI)
    unfold okI at hI
    unfold okL
    cases bl
    · simp only [Bool.not_false, Bool.true_and, decide_eq_false_iff_not] at hI ⊢
      exact fun h => hI h.1
    · rfl
  · have hI' : okI (B.drop i) bl = true := by simpa using hI
    unfold okI at hI'
    simp only [Bool.and_eq_true, Bool.not_eq_true', decide_eq_true_eq] at hI'
    obtain ⟨rfl, h8⟩ := hI'
    by_cases hneg : rd (B.drop i) < 0
    · refine hno ?_ (rStampsO_neg w b g B i _ he (by omega) rfl hneg)
      simp only [okL, Bool.not_false, Bool.true_and, decide_eq_false_iff_not]
      exact fun h => by have := h.2.1; omega
    · obtain ⟨m, hm⟩ := Int.eq_ofNat_of_zero_le (a := rd (B.drop i)) (by omega)
      by_cases hfit : i + 8 + 16 * m ≤ B.length
      · have hok : okL (B.drop i) false = true := by
          simp only [okL, Bool.not_false, Bool.true_and, decide_eq_true_eq]
          exact ⟨h8, by omega, by rw [hm, Int.toNat_natCast]; omega⟩
        have hv : valL (B.drop i) false = rdL (B.drop i) m := by unfold valL; rw [if_pos hok, hm, Int.toNat_natCast]
        rw [hok, hv, hm, Int.toNat_natCast]
        exact rStampsO_yes w b g B i m he (by omega) hm hfit
      · refine hno ?_ (rStampsO_far w b g B i m he (by omega) hm (by omega))
        simp only [okL, Bool.not_false, Bool.true_and, decide_eq_false_iff_not]
        exact fun h => by have := h.2.2; rw [hm, Int.toNat_natCast] at this; omega

end S2
end Go.Proofs.YthadojodhccahaaGreat
