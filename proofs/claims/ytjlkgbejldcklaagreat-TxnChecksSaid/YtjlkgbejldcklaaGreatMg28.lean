/- The reference's eye: Stamp. Conditions: as each theorem states. -/
import Derived.Deep.RegionHeld3
import Derived.Test.YtjlkgbejldcklaaGreatMg27
/- The reference's eye: Stamp. Conditions: as each theorem states. -/
namespace Go.Proofs.YtjlkgbejldcklaaGreat
namespace S2
open Go.RowKit Go.Deep

theorem RAt.lt2 {w : World} {b g : Nat} {B : List UInt8} {i : Nat} {bl : Bool} (h : RAt w b g B i bl) (hne : B ≠ []) : g < w.heap.size := by
  obtain ⟨v, _, hb, _⟩ := h
  exact hb.lt hne
theorem rd_wrap (l : List UInt8) : rd l = IntKind.i64.wrap (leN (l.take 8)) := (IntWalk.i64_left _).symm
theorem sixteen_of {w : World} {g : Nat} {v : Value} {l : List UInt8} (h : Bs w g v l) (h16 : l.length = 16) :
    ∃ o cap, v = .slice (some ⟨g, o, none⟩) 16 cap ∧ 16 ≤ cap ∧ cap ≤ 9223372036854775807 ∧ Bs w g (.slice (some ⟨g, o, none⟩) 8 cap) (l.take 8) ∧ Bs w g (.slice (some ⟨g, o + 8, none⟩) 8 (cap - 8)) (l.drop 8) := by
  rcases h with ⟨_, h⟩ | ⟨o, cap, rfl, h1, h2, h3⟩
  · subst h; cases h16
  · have hd := bs_drop (n := 8) h1 h2 h3
    rw [h16] at hd
    exact ⟨o, cap, by rw [h16], by omega, h2, bs_take h1 h2 h3 (by omega), hd⟩

set_option maxRecDepth 100000 in
set_option maxHeartbeats 400000 in
theorem rStamp_yes (w : World) (b g : Nat) (B : List UInt8) (i : Nat) (he : RAt w b g B i false) (h : i + 16 ≤ B.length) :
    Calls Tryz.prog 236 #[.pointer (some ⟨b, 0, none⟩)] w (RSeen w b g B false (.agg #[.int .i64 (rd (B.drop i)), .int .i64 (rd ((B.drop i).drop 8))]) (i + 16)) := by
  have HE := Lib.hid he
  clear he
  have v2 : rd ((B.drop i).drop 8) = rd (B.drop (i + 8)) := by rw [List.drop_drop]
  rw [v2, rd_wrap, rd_wrap]
  clear v2
  go_enter Tryz.func236, Tryz.ntmps236
  go_wp2_with fail
  have hA : Keeps (fun _ => False) w (w.alloc (Obj.cells #[Value.int IntKind.i64 0, Value.int IntKind.i64 0] 42)) := Keeps.alloc _ _ _
  refine (rtake_yes _ b g B i 16 (HE.out.before hA) (by omega) h).mono ?_
  rintro e w1 ⟨v1, rfl, hb1, he1, hk1⟩
  obtain ⟨o, cap, rfl, hc1, hc2, ha, hc⟩ := sixteen_of hb1 (by rw [List.length_take, List.length_drop]; omega)
  have e1 : ((B.drop i).take 16).take 8 = (B.drop i).take 8 := by rw [List.take_take]; rfl
  have e2 : ((B.drop i).take 16).drop 8 = (B.drop (i + 8)).take 8 := by rw [List.drop_take, List.drop_drop]
  rw [e1] at ha
  rw [e2] at hc
  have HA := Lib.hid (ha.keep (S := fun _ => False) (Keeps.drew _ w1) (fun _ h => h))
  have HC := Lib.hid (hc.keep (S := fun _ => False) (Keeps.drew _ w1) (fun _ h => h))
  obtain ⟨r0, r1, rf0, rf1, s0, s1, hk2, hk12⟩ := res2 hk1 (kNew HE.out.lt 0) (IntKind.i64.wrap (leN ((B.drop i).take 8))) (IntKind.i64.wrap (leN ((B.drop (i + 8)).take 8)))
  have HE2 := Lib.hid ((he1.keep hk12 (fun h => absurd HE.out.lt (by omega)) (fun hne h => absurd (HE.out.lt2 hne) (by omega))).before (Keeps.drew _ _))
  have HK2 := Lib.hid (hk2.then (Keeps.drew _ _))
  have L1 : ((B.drop i).take 8).length ≤ 8 := by rw [List.length_take]; omega
  have L2 : ((B.drop (i + 8)).take 8).length ≤ 8 := by rw [List.length_take]; omega
  have i1 : (8 : Int) ≤ (cap : Int) := by omega
  have i2 : (16 : Int) ≤ (cap : Int) := by omega
  have i3 : 8 ≤ cap := by omega
  clear hk1 hk2 hk12 hA e1 e2 ha hc hb1 he1
  go_wp2_with fail
  go_region_held3 (fun _ => True) (trivial) (first | (go_at_call 258; with_reducible refine (rnumber_any _ g _ _ HA.out L1).mono ?_; rintro e w ⟨rfl, rfl⟩) | (go_at_call 258; with_reducible refine (rnumber_any _ g _ _ HC.out L2).mono ?_; rintro e w ⟨rfl, rfl⟩))
  all_goals
    go_wp2
    exact bodyPost_ret (v := .agg #[.int .i64 (IntKind.i64.wrap (leN ((B.drop i).take 8))), .int .i64 (IntKind.i64.wrap (leN ((B.drop (i + 8)).take 8)))]) (by simp [results, Tryz.results236, go_sem, s0, s1]) rfl ⟨rfl, HE2.out, HK2.out⟩

set_option maxRecDepth 100000 in
set_option maxHeartbeats 2000000 in
theorem rStamp_any (w : World) (b g : Nat) (B : List UInt8) (i : Nat) (bl : Bool) (he : RAt w b g B i bl) :
    Calls Tryz.prog 236 #[.pointer (some ⟨b, 0, none⟩)] w (RSeen w b g B (!okS (B.drop i) bl) (.agg #[.int .i64 (valS (B.drop i) bl).1, .int .i64 (valS (B.drop i) bl).2]) (stepN (okS (B.drop i) bl) 16 i)) := by
  have HE := Lib.hid he
  have hl : (B.drop i).length = B.length - i := List.length_drop
  cases bl
  · by_cases h : 16 ≤ (B.drop i).length
    · have hok : okS (B.drop i) false = true := by simp only [okS, Bool.not_false, Bool.true_and, decide_eq_true_eq]; exact h
      have hv : valS (B.drop i) false = (rd (B.drop i), rd ((B.drop i).drop 8)) := by simp [valS, hok, rdS]
      have hs : stepN true 16 i = i + 16 := rfl
      rw [hv, hok, hs]
      exact rStamp_yes w b g B i he (by omega)
    · have hok : okS (B.drop i) false = false := by simp only [okS, Bool.not_false, Bool.true_and, decide_eq_false_iff_not]; exact h
      have hv : valS (B.drop i) false = (0, 0) := by simp [valS, hok]
      have hs : stepN false 16 i = i := rfl
      rw [hv, hok, hs]
      clear hv hok hs he
      go_enter Tryz.func236, Tryz.ntmps236
      go_wp2_with fail
      have hA : Keeps (fun _ => False) w (w.alloc (Obj.cells #[Value.int IntKind.i64 0, Value.int IntKind.i64 0] 42)) := Keeps.alloc _ _ _
      refine (rtake_no _ b g B i 16 (HE.out.before hA) (by omega)).mono ?_
      rintro e w1 ⟨rfl, he1, hk1⟩
      obtain ⟨r0, r1, rf0, rf1, s0, s1, hk2, hk12⟩ := res2 hk1 (kNew HE.out.lt 0) (0) (0)
      have HE2 := Lib.hid (he1.keep hk12 (fun h => absurd HE.out.lt (by omega)) (fun hne h => absurd (HE.out.lt2 hne) (by omega)))
      have HK2 := Lib.hid hk2
      clear hk1 hk2 hk12 hA
      go_wp2
      exact bodyPost_ret (v := .agg #[.int .i64 (0), .int .i64 (0)]) (by simp [results, Tryz.results236, go_sem, s0, s1]) rfl ⟨rfl, HE2.out, HK2.out⟩
  · have hok : okS (B.drop i) true = false := by simp [okS]
    have hv : valS (B.drop i) true = (0, 0) := by simp [valS, hok]
    have hs : stepN false 16 i = i := rfl
    rw [hv, hok, hs]
    clear hv hok hs he
    go_enter Tryz.func236, Tryz.ntmps236
    go_wp2_with fail
    have hA : Keeps (fun _ => False) w (w.alloc (Obj.cells #[Value.int IntKind.i64 0, Value.int IntKind.i64 0] 42)) := Keeps.alloc _ _ _
    refine (rtake_blind _ b g B i 16 (HE.out.before hA)).mono ?_
    rintro e w1 ⟨rfl, he1, hk1⟩
    obtain ⟨r0, r1, rf0, rf1, s0, s1, hk2, hk12⟩ := res2 hk1 (kNew HE.out.lt 0) (0) (0)
    have HE2 := Lib.hid (he1.keep hk12 (fun h => absurd HE.out.lt (by omega)) (fun hne h => absurd (HE.out.lt2 hne) (by omega)))
    have HK2 := Lib.hid hk2
    clear hk1 hk2 hk12 hA
    go_wp2
    exact bodyPost_ret (v := .agg #[.int .i64 (0), .int .i64 (0)]) (by simp [results, Tryz.results236, go_sem, s0, s1]) rfl ⟨rfl, HE2.out, HK2.out⟩

end S2
end Go.Proofs.YtjlkgbejldcklaaGreat
