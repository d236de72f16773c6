/- The reference's eye: Int, Text, Bool, Stamp, Done, Open. Conditions: as each theorem states. -/
import Derived.Test.YtjojjpfjennnoaaJa
namespace Go.Proofs.Ytjojjpfjennnoaa
open Go.RowKit Go.Deep

def stepN (ok : Bool) (k i : Nat) : Nat := if ok then i + k else i
theorem behind_step (ok : Bool) (k i : Nat) (B : List UInt8) : behind ok k (B.drop i) = B.drop (stepN ok k i) := by
  cases ok
  · simp [behind, stepN]
  · simp [behind, stepN, List.drop_drop]
/-- What a reading of the reference's eye comes to. -/
def RSeen (w : World) (b g : Nat) (B : List UInt8) (bl : Bool) (v : Value) (i : Nat) (e : Ending) (w' : World) : Prop := e = .returned v ∧ RAt w' b g B i bl ∧ Keeps (Only b) w w'

set_option maxRecDepth 100000 in
set_option maxHeartbeats 1000000 in
theorem rInt_any (w : World) (b g : Nat) (B : List UInt8) (i : Nat) (bl : Bool) (he : RAt w b g B i bl) :
    Calls Try.prog 25 #[.pointer (some ⟨b, 0, none⟩)] w (RSeen w b g B (!okI (B.drop i) bl) (.int .i64 (valI (B.drop i) bl)) (stepN (okI (B.drop i) bl) 8 i)) := by
  have HE := Lib.hid he
  obtain ⟨_, _, _, _, _, _, _, _, _, hiB, _⟩ := he.cells
  clear he
  have hl : (B.drop i).length = B.length - i := List.length_drop
  cases bl
  · by_cases h : 8 ≤ (B.drop i).length
    · have hok : okI (B.drop i) false = true := by simp only [okI, Bool.not_false, Bool.true_and, decide_eq_true_eq]; exact h
      have hv : valI (B.drop i) false = rd (B.drop i) := by simp [valI, hok]
      have hs : stepN true 8 i = i + 8 := rfl
      rw [hv, hok, hs]
      unfold rd
      clear hv hok hs
      go_enter Try.func25, Try.ntmps25
      go_wp2_with (first | (go_at_call 51; refine (rtake_yes _ b g B i 8 HE.out (by omega) (by omega)).mono ?_; rintro e w1 ⟨v1, rfl, hb1, he1, hk1⟩; obtain ⟨a1, n1, cc1, rfl⟩ := hb1.form; have HB1 := Lib.hid hb1; have HE1 := Lib.hid he1; have HK1 := Lib.hid hk1; clear he1 hk1; clear hb1) | (go_at_call 52; refine (rnumber_any _ g _ _ HB1.out (by simp; omega)).mono ?_; rintro e w ⟨rfl, rfl⟩))
      go_ret
      exact ⟨rfl, HE1.out, HK1.out⟩
    · have hok : okI (B.drop i) false = false := by simp only [okI, Bool.not_false, Bool.true_and, decide_eq_false_iff_not]; exact h
      have hv : valI (B.drop i) false = 0 := by simp [valI, hok]
      have hs : stepN false 8 i = i := rfl
      rw [hv, hok, hs]
      clear hv hok hs
      go_enter Try.func25, Try.ntmps25
      go_wp2_with (go_at_call 51; refine (rtake_no _ b g B i 8 HE.out (by omega)).mono ?_; rintro e w1 ⟨rfl, he1, hk1⟩; have HE1 := Lib.hid he1; have HK1 := Lib.hid hk1; clear he1 hk1)
      go_ret
      exact ⟨rfl, HE1.out, HK1.out⟩
  · have hok : okI (B.drop i) true = false := by simp [okI]
    have hv : valI (B.drop i) true = 0 := by simp [valI, hok]
    have hs : stepN false 8 i = i := rfl
    rw [hv, hok, hs]
    clear hv hok hs
    go_enter Try.func25, Try.ntmps25
    go_wp2_with (go_at_call 51; refine (rtake_blind _ b g B i 8 HE.out).mono ?_; rintro e w1 ⟨rfl, he1, hk1⟩; have HE1 := Lib.hid he1; have HK1 := Lib.hid hk1; clear he1 hk1)
    go_ret
    exact ⟨rfl, HE1.out, HK1.out⟩

theorem resetDim {w w1 : World} {b g : Nat} {B : List UInt8} {i j : Nat} {bl : Bool} (h : RAt w1 b g B j bl) (hi : i ≤ B.length) (k : Keeps (Only b) w w1) :
    RAt ((w1.setCell ⟨b, 1, none⟩ (.int .i64 (i : Int))).setCell ⟨b, 2, none⟩ (.bool true)) b g B i true ∧ Keeps (Only b) w ((w1.setCell ⟨b, 1, none⟩ (.int .i64 (i : Int))).setCell ⟨b, 2, none⟩ (.bool true)) :=
  ⟨(h.set i hi).dim, (k.then (Keeps.setCell (S := Only b) (p := ⟨b, 1, none⟩) (fun _ => rfl) _)).then (Keeps.setCell (S := Only b) (p := ⟨b, 2, none⟩) (fun _ => rfl) _)⟩

set_option maxRecDepth 100000 in
set_option maxHeartbeats 2000000 in
theorem rText_far (w : World) (b g : Nat) (B : List UInt8) (i n : Nat) (he : RAt w b g B i false) (h4 : i + 4 ≤ B.length) (hn : leN ((B.drop i).take 4) = n) (h : 1048576 < n ∨ B.length < i + 4 + n) :
    Calls Try.prog 27 #[.pointer (some ⟨b, 0, none⟩)] w (RSeen w b g B true (.string ⟨#[]⟩) i) := by
  have HE := Lib.hid he
  obtain ⟨a, c, _, c0, c1, c2, f1, f2, hlt, hi, hB⟩ := he.cells
  have hn4 : n < 4294967296 := by
    have h1 := leN_lt ((B.drop i).take 4)
    rw [hn, List.length_take, List.length_drop] at h1
    have h2 : 2 ^ (8 * min 4 (B.length - i)) = 4294967296 := by rw [show min 4 (B.length - i) = 4 by omega]
    omega
  have HN := Lib.hid hn
  clear he hn
  by_cases hbig : 1048576 < n
  · have hd1 : decide ((1048576 : Int) < (n : Int)) = true := by simp; omega
    clear h hbig
    go_enter Try.func27, Try.ntmps27
    go_wp2_with (first | (go_at_call 51; refine (rtake_yes _ b g B i 4 HE.out (by omega) (by omega)).mono ?_; rintro e w1 ⟨v1, rfl, hb1, he1, hk1⟩; obtain ⟨a1, n1, cc1, rfl⟩ := hb1.form; have HB1 := Lib.hid hb1; have HE1 := Lib.hid he1; have HK1 := Lib.hid hk1; clear he1 hk1; clear hb1) | (go_at_call 52; refine (rnumber_any _ g _ _ HB1.out (by simp; omega)).mono ?_; rintro e w ⟨rfl, rfl⟩; rw [HN.out]))
    clear c0 c1 c2 f1 f2 hlt
    obtain ⟨a3, c3, _, c0, c1, c2, f1, f2, hlt, _, _⟩ := HE1.out.cells
    refine region_aft (by kernel_rfl) (by kernel_rfl) ?_
    repeat (go_big_quiet_step (fail))
    refine wpQuiet_nil ?_
    rintro w2 ⟨z, rfl⟩
    obtain ⟨hx, hk⟩ := resetDim (HE1.out.before (aftK z)) hi (HK1.out.then (aftK z))
    have HX := Lib.hid hx
    have HK := Lib.hid hk
    clear hx hk
    go_wp2
    go_ret
    exact ⟨rfl, HX.out, HK.out⟩
  · have hd1 : decide ((1048576 : Int) < (n : Int)) = false := by simp; omega
    have hd2 : decide ((B.length : Int) - ((i : Int) + 4) < (n : Int)) = true := by simp; omega
    clear h
    go_enter Try.func27, Try.ntmps27
    go_wp2_with (first | (go_at_call 51; refine (rtake_yes _ b g B i 4 HE.out (by omega) (by omega)).mono ?_; rintro e w1 ⟨v1, rfl, hb1, he1, hk1⟩; obtain ⟨a1, n1, cc1, rfl⟩ := hb1.form; have HB1 := Lib.hid hb1; have HE1 := Lib.hid he1; have HK1 := Lib.hid hk1; clear he1 hk1; clear hb1) | (go_at_call 52; refine (rnumber_any _ g _ _ HB1.out (by simp; omega)).mono ?_; rintro e w ⟨rfl, rfl⟩; rw [HN.out]))
    clear c0 c1 c2 f1 f2 hlt
    obtain ⟨a3, c3, _, c0, c1, c2, f1, f2, hlt, _, _⟩ := HE1.out.cells
    rw [Int.natCast_add] at c1
    refine region_aft (by kernel_rfl) (by kernel_rfl) ?_
    repeat (go_big_quiet_step (fail))
    refine wpQuiet_nil ?_
    rintro w2 ⟨z, rfl⟩
    obtain ⟨hx, hk⟩ := resetDim (HE1.out.before (aftK z)) hi (HK1.out.then (aftK z))
    have HX := Lib.hid hx
    have HK := Lib.hid hk
    clear hx hk
    go_wp2
    go_ret
    exact ⟨rfl, HX.out, HK.out⟩

set_option maxRecDepth 100000 in
set_option maxHeartbeats 2000000 in
theorem rText_yes (w : World) (b g : Nat) (B : List UInt8) (i n : Nat) (he : RAt w b g B i false) (h4 : i + 4 + n ≤ B.length) (hn : leN ((B.drop i).take 4) = n) (h1 : n ≤ 1048576) :
    Calls Try.prog 27 #[.pointer (some ⟨b, 0, none⟩)] w (RSeen w b g B false (.string ⟨((B.drop (i + 4)).take n).toArray⟩) (i + 4 + n)) := by
  have HE := Lib.hid he
  obtain ⟨a, c, _, c0, c1, c2, f1, f2, hlt, hi, hB⟩ := he.cells
  have HN := Lib.hid hn
  clear he hn
  have hd1 : decide ((1048576 : Int) < (n : Int)) = false := by simp; omega
  have hd2 : decide ((B.length : Int) - ((i : Int) + 4) < (n : Int)) = false := by simp; omega
  go_enter Try.func27, Try.ntmps27
  go_wp2_with (first | (go_at_call 51; refine (rtake_yes _ b g B i 4 HE.out (by omega) (by omega)).mono ?_; rintro e w1 ⟨v1, rfl, hb1, he1, hk1⟩; obtain ⟨a1, n1, cc1, rfl⟩ := hb1.form; have HB1 := Lib.hid hb1; have HE1 := Lib.hid he1; have HK1 := Lib.hid hk1; clear he1 hk1; clear hb1) | (go_at_call 52; refine (rnumber_any _ g _ _ HB1.out (by simp; omega)).mono ?_; rintro e w ⟨rfl, rfl⟩; rw [HN.out]))
  clear c0 c1 c2 f1 f2 hlt
  obtain ⟨a3, c3, _, c0, c1, c2, f1, f2, hlt, _, _⟩ := HE1.out.cells
  rw [Int.natCast_add] at c1
  refine region_aft (by kernel_rfl) (by kernel_rfl) ?_
  repeat (go_big_quiet_step (fail))
  refine wpQuiet_nil ?_
  rintro w2 ⟨z, rfl⟩
  have HE2 := Lib.hid (HE1.out.before (aftK z))
  have HK2 : Hid (Keeps (Only b) w z.x) := HK1.out.then (aftK z)
  clear c0 c1 c2 f1 f2 hlt
  go_wp2_with (go_at_call 51; refine (rtake_yes _ b g B (i + 4) n HE2.out (by omega) (by omega)).mono ?_; rintro e w3 ⟨v3, rfl, hb3, he3, hk3⟩; have hstr := hb3.str; obtain ⟨a4, n4, c4, rfl⟩ := hb3.form; have HE3 := Lib.hid he3; have HK3 := Lib.hid (HK2.out.then hk3); clear he3 hk3 hb3)
  go_ret
  exact ⟨rfl, HE3.out, HK3.out⟩

set_option maxHeartbeats 1000000 in
theorem rText_any (w : World) (b g : Nat) (B : List UInt8) (i : Nat) (bl : Bool) (he : RAt w b g B i bl) :
    Calls Try.prog 27 #[.pointer (some ⟨b, 0, none⟩)] w (RSeen w b g B (!okT (B.drop i) bl) (.string (valT (B.drop i) bl)) (stepN (okT (B.drop i) bl) (4 + leN ((B.drop i).take 4)) i)) := by
  have HE := Lib.hid he
  obtain ⟨a, c, _, c0, c1, c2, f1, f2, hlt, hiB, hB⟩ := he.cells
  clear he
  have hl : (B.drop i).length = B.length - i := List.length_drop
  have hl4 : ((B.drop i).drop 4).length = B.length - (i + 4) := by rw [List.drop_drop, List.length_drop]
  cases bl
  · by_cases h : 4 ≤ (B.drop i).length ∧ leN ((B.drop i).take 4) ≤ 1048576 ∧ leN ((B.drop i).take 4) ≤ ((B.drop i).drop 4).length
    · have hok : okT (B.drop i) false = true := by simp only [okT, Bool.not_false, Bool.true_and, decide_eq_true_eq]; exact h
      have hv : valT (B.drop i) false = atT (B.drop i) := by simp [valT, hok]
      have hs : stepN true (4 + leN ((B.drop i).take 4)) i = i + 4 + leN ((B.drop i).take 4) := by rw [Nat.add_assoc]; rfl
      have ha : atT (B.drop i) = ⟨((B.drop (i + 4)).take (leN ((B.drop i).take 4))).toArray⟩ := by unfold atT; rw [List.drop_drop]
      rw [hv, hok, hs, ha]
      exact rText_yes w b g B i _ HE.out (by omega) rfl h.2.1
    · have hok : okT (B.drop i) false = false := by simp only [okT, Bool.not_false, Bool.true_and, decide_eq_false_iff_not]; exact h
      have hv : valT (B.drop i) false = ⟨#[]⟩ := by simp [valT, hok]
      have hs : stepN false (4 + leN ((B.drop i).take 4)) i = i := rfl
      rw [hv, hok, hs]
      clear hv hok hs
      by_cases h4 : 4 ≤ (B.drop i).length
      · exact rText_far w b g B i _ HE.out (by omega) rfl (by omega)
      · clear h hl4
        go_enter Try.func27, Try.ntmps27
        go_wp2_with (go_at_call 51; refine (rtake_no _ b g B i 4 HE.out (by omega)).mono ?_; rintro e w1 ⟨rfl, he1, hk1⟩; have HE1 := Lib.hid he1; have HK1 := Lib.hid hk1; clear he1 hk1)
        go_ret
        exact ⟨rfl, HE1.out, HK1.out⟩
  · have hok : okT (B.drop i) true = false := by simp [okT]
    have hv : valT (B.drop i) true = ⟨#[]⟩ := by simp [valT, hok]
    have hs : stepN false (4 + leN ((B.drop i).take 4)) i = i := rfl
    rw [hv, hok, hs]
    clear hv hok hs
    go_enter Try.func27, Try.ntmps27
    go_wp2_with (go_at_call 51; refine (rtake_blind _ b g B i 4 HE.out).mono ?_; rintro e w1 ⟨rfl, he1, hk1⟩; have HE1 := Lib.hid he1; have HK1 := Lib.hid hk1; clear he1 hk1)
    go_ret
    exact ⟨rfl, HE1.out, HK1.out⟩

end Go.Proofs.Ytjojjpfjennnoaa
