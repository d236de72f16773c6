/- The reference's eye: Bool, Stamp, Done, Open. Conditions: as each theorem states. -/
import Derived.Test.YtjojjpfjennnoaaJb
namespace Go.Proofs.Ytjojjpfjennnoaa
open Go.RowKit Go.Deep

theorem take_one {B : List UInt8} {i : Nat} {x : UInt8} (h : B[i]? = some x) : (B.drop i).take 1 = [x] := by
  obtain ⟨hi, rfl⟩ := List.getElem?_eq_some_iff.1 h
  rw [← List.getElem_cons_drop (h := hi)]
  rfl

theorem one_of {w : World} {g : Nat} {v : Value} {x : UInt8} (h : Bs w g v [x]) : ∃ o c, v = .slice (some ⟨g, o, none⟩) 1 c ∧ 1 ≤ c ∧ c ≤ 9223372036854775807 ∧ w.cell? ⟨g, o, none⟩ = some (.int .u8 (x.toNat : Int)) := by
  rcases h with ⟨_, h⟩ | ⟨o, cap, hv, h1, h2, h3⟩
  · cases h
  · exact ⟨o, cap, hv, h1, h2, h3 0 x rfl⟩

set_option maxRecDepth 100000 in
set_option maxHeartbeats 1000000 in
theorem rBool_any (w : World) (b g : Nat) (B : List UInt8) (i : Nat) (bl : Bool) (he : RAt w b g B i bl) :
    Calls Try.prog 29 #[.pointer (some ⟨b, 0, none⟩)] w (RSeen w b g B (!okB (B.drop i) bl) (.bool (valB (B.drop i) bl)) (stepN (okB (B.drop i) bl) 1 i)) := by
  have HE := Lib.hid he
  obtain ⟨a, c, _, c0, c1, c2, f1, f2, hlt, hiB, hB⟩ := he.cells
  clear he
  have hl : (B.drop i).length = B.length - i := List.length_drop
  cases bl
  · by_cases h : 1 ≤ (B.drop i).length
    · obtain ⟨x, hx⟩ := get_lt (l := B) (j := i) (by omega)
      have ht := take_one hx
      have hn : leN [x] = x.toNat := by simp [leN]
      by_cases h1 : 1 < x.toNat
      · have hok : okB (B.drop i) false = false := by unfold okB; rw [ht, hn]; simp; omega
        have hv : valB (B.drop i) false = false := by simp [valB, hok]
        have hs : stepN false 1 i = i := rfl
        rw [hv, hok, hs]
        clear hv hok hs
        have hd : decide ((1 : Int) < (x.toNat : Int)) = true := by simp; omega
        have HT := Lib.hid ht
        clear ht
        go_enter Try.func29, Try.ntmps29
        go_wp2_with (go_at_call 51; refine (rtake_yes _ b g B i 1 HE.out (by omega) (by omega)).mono ?_; rintro e w1 ⟨v1, rfl, hb1, he1, hk1⟩; rw [HT.out] at hb1; obtain ⟨o1, cc1, rfl, _, _, hcx⟩ := one_of hb1; have HB1 := Lib.hid hb1; have HE1 := Lib.hid he1; have HK1 := Lib.hid hk1; clear he1 hk1; obtain ⟨a3, c3, _, d0, d1, d2, r1, r2, hlt3, _, _⟩ := HE1.out.cells; clear hb1)
        obtain ⟨hx9, hk9⟩ := resetDim HE1.out hiB HK1.out
        have HX := Lib.hid hx9
        have HK := Lib.hid hk9
        clear hx9 hk9
        go_ret
        exact ⟨rfl, HX.out, HK.out⟩
      · have hok : okB (B.drop i) false = true := by unfold okB; rw [ht, hn]; simp; omega
        have hs : stepN true 1 i = i + 1 := rfl
        have hv : valB (B.drop i) false = decide (x.toNat = 1) := by unfold valB; rw [hok, ht, hn]; rfl
        rw [hv, hok, hs]
        clear hv hok hs
        have HT := Lib.hid ht
        clear ht
        obtain ⟨q, hq⟩ : ∃ q, x.toNat = q := ⟨_, rfl⟩
        rw [hq] at h1 ⊢
        have hqq : q = 0 ∨ q = 1 := by omega
        rcases hqq with rfl | rfl
        · go_enter Try.func29, Try.ntmps29
          go_wp2_with (go_at_call 51; refine (rtake_yes _ b g B i 1 HE.out (by omega) (by omega)).mono ?_; rintro e w1 ⟨v1, rfl, hb1, he1, hk1⟩; rw [HT.out] at hb1; obtain ⟨o1, cc1, rfl, _, _, hcx⟩ := one_of hb1; rw [hq] at hcx; have HB1 := Lib.hid hb1; have HE1 := Lib.hid he1; have HK1 := Lib.hid hk1; clear he1 hk1; clear hb1)
          go_ret
          exact ⟨rfl, HE1.out, HK1.out⟩
        · go_enter Try.func29, Try.ntmps29
          go_wp2_with (go_at_call 51; refine (rtake_yes _ b g B i 1 HE.out (by omega) (by omega)).mono ?_; rintro e w1 ⟨v1, rfl, hb1, he1, hk1⟩; rw [HT.out] at hb1; obtain ⟨o1, cc1, rfl, _, _, hcx⟩ := one_of hb1; rw [hq] at hcx; have HB1 := Lib.hid hb1; have HE1 := Lib.hid he1; have HK1 := Lib.hid hk1; clear he1 hk1; clear hb1)
          go_ret
          exact ⟨rfl, HE1.out, HK1.out⟩
    · have hok : okB (B.drop i) false = false := by unfold okB; simp; omega
      have hv : valB (B.drop i) false = false := by simp [valB, hok]
      have hs : stepN false 1 i = i := rfl
      rw [hv, hok, hs]
      clear hv hok hs
      go_enter Try.func29, Try.ntmps29
      go_wp2_with (go_at_call 51; refine (rtake_no _ b g B i 1 HE.out (by omega)).mono ?_; rintro e w1 ⟨rfl, he1, hk1⟩; have HE1 := Lib.hid he1; have HK1 := Lib.hid hk1; clear he1 hk1)
      go_ret
      exact ⟨rfl, HE1.out, HK1.out⟩
  · have hok : okB (B.drop i) true = false := by simp [okB]
    have hv : valB (B.drop i) true = false := by simp [valB, hok]
    have hs : stepN false 1 i = i := rfl
    rw [hv, hok, hs]
    clear hv hok hs
    go_enter Try.func29, Try.ntmps29
    go_wp2_with (go_at_call 51; refine (rtake_blind _ b g B i 1 HE.out).mono ?_; rintro e w1 ⟨rfl, he1, hk1⟩; have HE1 := Lib.hid he1; have HK1 := Lib.hid hk1; clear he1 hk1)
    go_ret
    exact ⟨rfl, HE1.out, HK1.out⟩

set_option maxRecDepth 100000 in
set_option maxHeartbeats 1000000 in
theorem rDone_any (w : World) (b g : Nat) (B : List UInt8) (i : Nat) (bl : Bool) (he : RAt w b g B i bl) :
    Calls Try.prog 38 #[.pointer (some ⟨b, 0, none⟩)] w fun e w' => e = .returned (.int .i64 (doneN (B.drop i) bl)) ∧ Below w.heap.size w w' := by
  obtain ⟨a, c, _, c0, c1, c2, f1, f2, hlt, hiB, hB⟩ := he.cells
  clear he
  cases bl
  · by_cases h : i < B.length
    · have hd : doneN (B.drop i) false = 20 := by
        have h1 : (B.drop i).isEmpty = false := by rw [List.isEmpty_eq_false_iff]; intro h2; have := List.drop_eq_nil_iff.1 h2; omega
        simp [doneN, h1]
      rw [hd]
      have hg : decide ((i : Int) < (B.length : Int)) = true := by simp; omega
      clear hd
      go_enter Try.func38, Try.ntmps38
      go_wp2_with fail
      refine region_aft (by kernel_rfl) (by kernel_rfl) ?_
      repeat (go_big_quiet_step (fail))
      refine wpQuiet_nil ?_
      rintro w2 ⟨z, rfl⟩
      go_wp2
      go_ret
      exact ⟨rfl, z.h⟩
    · have hd : doneN (B.drop i) false = 0 := by
        have h1 : B.drop i = [] := List.drop_eq_nil_of_le (by omega)
        simp [doneN, h1]
      rw [hd]
      have hg : decide ((i : Int) < (B.length : Int)) = false := by simp; omega
      clear hd
      go_enter Try.func38, Try.ntmps38
      go_wp2_with fail
      refine region_aft (by kernel_rfl) (by kernel_rfl) ?_
      repeat (go_big_quiet_step (fail))
      refine wpQuiet_nil ?_
      rintro w2 ⟨z, rfl⟩
      go_wp2
      go_ret
      exact ⟨rfl, z.h⟩
  · have hd : doneN (B.drop i) true = 20 := rfl
    rw [hd]
    clear hd
    go_enter Try.func38, Try.ntmps38
    go_wp2_with fail
    refine region_aft (by kernel_rfl) (by kernel_rfl) ?_
    repeat (go_big_quiet_step (fail))
    refine wpQuiet_nil ?_
    rintro w2 ⟨z, rfl⟩
    go_wp2
    go_ret
    exact ⟨rfl, z.h⟩

def ROpened (w : World) (l : List UInt8) (e : Ending) (w' : World) : Prop :=
  ∃ b g, e = .returned (.pointer (some ⟨b, 0, none⟩)) ∧ RAt w' b g l 0 false ∧ w.heap.size ≤ b ∧ (l ≠ [] → w.heap.size ≤ g) ∧ Below w.heap.size w w'
set_option maxRecDepth 100000 in
set_option maxHeartbeats 1000000 in
theorem rOpen_w (w : World) (g : Nat) (v : Value) (l : List UInt8) (h : Bw w g v l) (hlen : l.length ≤ 20000) : Calls Try.prog 21 #[v] w (ROpened w l) := by
  have HB := Lib.hid h
  obtain ⟨a, c, rfl, _, _, _⟩ := h
  go_enter Try.func21, Try.ntmps21
  go_wp2_with (at_builtin; refine wpList_app rfl (.tmp 3) (.tmp 4) 27 rfl rfl rfl (row_empty _) (HB.out.keep (S := fun _ => False) (Keeps.alloc _ _ _) (fun _ h => h)).src (by simp; omega) ?_; intro v' w' g' h1 h2 h3; obtain ⟨av, nv, cv, rfl⟩ := h1.form; have H1 := Lib.hid h1; have H2 := Lib.hid h2; have H3 := Lib.hid h3; clear h1 h2 h3)
  go_ret
  have hb : Below w.heap.size w w' := ((Below.refl _ _).alloc (Nat.le_refl _) _).grown H2.out (by simp) (fun k hk => by cases hk; exact Nat.le_refl _)
  have hrow : Row w' g' (.slice av nv cv) l := by simpa using H1.out
  have hnew : New w g' := by
    rcases H3.out with e | e
    · rw [e]; intro k hk; cases hk; exact Nat.le_refl _
    · exact e.later (Keeps.alloc (fun _ => False) _ _)
  refine ⟨w'.heap.size, g'.getD 0, rfl, ⟨_, heap_alloc_new w' _, hrow.bs.keep (Keeps.alloc (fun _ => False) _ _) (fun _ h => h), Nat.zero_le _, hlen, fun hne => ?_⟩, hb.size, fun hne => ?_, hb.alloc hb.size _⟩
  · obtain ⟨k, rfl⟩ := hrow.some_of hne
    exact Nat.ne_of_lt (hrow.lt rfl)
  · obtain ⟨k, rfl⟩ := hrow.some_of hne
    exact hnew k rfl

end Go.Proofs.Ytjojjpfjennnoaa
