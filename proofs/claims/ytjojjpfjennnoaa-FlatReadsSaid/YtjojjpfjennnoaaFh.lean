/- The contracts of an eye's methods, of Open and of Sum. Conditions: as each theorem states. -/
import Derived.Test.YtjojjpfjennnoaaFg
namespace Go.Proofs.Ytjojjpfjennnoaa
open Go.RowKit

/-- Whether what is asked stands there whole; how many bytes it has. -/
def okI (l : List UInt8) (bl : Bool) : Bool := !bl && decide (8 ≤ l.length)
def okT (l : List UInt8) (bl : Bool) : Bool := !bl && decide (4 ≤ l.length ∧ leN (l.take 4) ≤ 1048576 ∧ leN (l.take 4) ≤ (l.drop 4).length)
def okB (l : List UInt8) (bl : Bool) : Bool := !bl && decide (1 ≤ l.length ∧ leN (l.take 1) ≤ 1)
def okS (l : List UInt8) (bl : Bool) : Bool := !bl && decide (16 ≤ l.length)
instance (l : List UInt8) : Decidable (hasL l) := by unfold hasL; infer_instance
def okL (l : List UInt8) (bl : Bool) : Bool := !bl && decide (hasL l)
def behind (ok : Bool) (k : Nat) (l : List UInt8) : List UInt8 := if ok then l.drop k else l
def atT (l : List UInt8) : ByteArray := ⟨((l.drop 4).take (leN (l.take 4))).toArray⟩
def valI (l : List UInt8) (bl : Bool) : Int := if okI l bl then rd l else 0
def valT (l : List UInt8) (bl : Bool) : ByteArray := if okT l bl then atT l else ⟨#[]⟩
def valB (l : List UInt8) (bl : Bool) : Bool := okB l bl && decide (leN (l.take 1) = 1)
def valS (l : List UInt8) (bl : Bool) : Int × Int := if okS l bl then rdS l else (0, 0)
def valL (l : List UInt8) (bl : Bool) : List (Int × Int) := if okL l bl then rdL l (rd l).toNat else []

set_option maxHeartbeats 1000000 in
theorem eyeInt_any (w : World) (b g : Nat) (l : List UInt8) (bl : Bool) (he : EyeAt w b g l bl) :
    Calls Try.prog 24 #[.pointer (some ⟨b, 0, none⟩)] w (Seen w b g (!okI l bl) (.int .i64 (valI l bl)) (behind (okI l bl) 8 l)) := by
  have HE := Lib.hid he
  clear he
  cases bl
  · by_cases h : 8 ≤ l.length
    · have hok : okI l false = true := by simp only [okI, Bool.not_false, Bool.true_and, decide_eq_true_eq]; exact h
      have hv : valI l false = rd l := by simp [valI, hok]
      rw [hv, hok]
      clear hv hok
      go_enter Try.func24, Try.ntmps24
      go_wp2_with (go_at_call 49; refine (look49_yes _ b g l (fun _ v w' => v = .int .i64 (rd l) ∧ EyeAt w' b g (l.drop 8) false) HE.out (fun W hW => (int_yes W b g l false (HE.out.before hW) h).mono fun e w' ⟨h1, h2, h3⟩ => ⟨_, h1, ⟨rfl, h2⟩, h3⟩)).mono ?_; rintro e w1 ⟨W, v, rfl, hW, ⟨rfl, he1⟩, hk1⟩; have HE1 := Lib.hid he1; have HK1 := Lib.hid hk1; clear he1 hk1 hW)
      go_ret
      exact ⟨rfl, HE1.out, HK1.out⟩
    · have hok : okI l false = false := by simp only [okI, Bool.not_false, Bool.true_and, decide_eq_false_iff_not]; exact h
      have hv : valI l false = 0 := by simp [valI, hok]
      rw [hv, hok]
      clear hv hok
      go_enter Try.func24, Try.ntmps24
      go_wp2_with (go_at_call 49; refine (look49_no _ b g l HE.out (fun W hW => (int_no W b g l false (HE.out.before hW) (by omega)))).mono ?_; rintro e w1 ⟨rfl, he1, hk1⟩; have HE1 := Lib.hid he1; have HK1 := Lib.hid hk1; clear he1 hk1)
      go_ret
      exact ⟨rfl, HE1.out, HK1.out⟩
  · have hok : okI l true = false := by simp [okI]
    have hv : valI l true = 0 := by simp [valI, hok]
    rw [hv, hok]
    clear hv hok
    go_enter Try.func24, Try.ntmps24
    go_wp2_with (go_at_call 49; refine (look49_blind _ b g l HE.out _).mono ?_; rintro e w1 ⟨rfl, hk1⟩; have HE1 := Lib.hid (HE.out.before hk1); have HK1 := Lib.hid hk1; clear hk1)
    go_ret
    exact ⟨rfl, HE1.out, HK1.out.mono fun _ _ h => h.elim⟩
theorem eyeInt_nil (w : World) : Calls Try.prog 24 #[.pointer none] w fun e w' => e = .returned (.int .i64 (0)) ∧ Keeps (fun _ => False) w w' := by
  go_enter Try.func24, Try.ntmps24
  go_wp2_with (go_at_call 49; refine (look49_nil _ _).mono ?_; rintro e w1 ⟨rfl, hk1⟩; have HK1 := Lib.hid hk1; clear hk1)
  go_ret
  exact ⟨rfl, HK1.out⟩

set_option maxHeartbeats 1000000 in
theorem eyeText_any (w : World) (b g : Nat) (l : List UInt8) (bl : Bool) (he : EyeAt w b g l bl) :
    Calls Try.prog 26 #[.pointer (some ⟨b, 0, none⟩)] w (Seen w b g (!okT l bl) (.string (valT l bl)) (behind (okT l bl) (4 + leN (l.take 4)) l)) := by
  have HE := Lib.hid he
  clear he
  cases bl
  · by_cases h : 4 ≤ l.length ∧ leN (l.take 4) ≤ 1048576 ∧ leN (l.take 4) ≤ (l.drop 4).length
    · have hok : okT l false = true := by simp only [okT, Bool.not_false, Bool.true_and, decide_eq_true_eq]; exact h
      have hv : valT l false = atT l := by simp [valT, hok]
      rw [hv, hok]
      clear hv hok
      go_enter Try.func26, Try.ntmps26
      go_wp2_with (go_at_call 53; refine (look53_yes _ b g l (fun _ v w' => v = .string (atT l) ∧ EyeAt w' b g (l.drop (4 + leN (l.take 4))) false) HE.out (fun W hW => (text_yes W b g l false (HE.out.before hW) h.1 _ rfl h.2.1 h.2.2).mono fun e w' ⟨h1, h2, h3⟩ => ⟨_, h1, ⟨rfl, h2⟩, h3⟩)).mono ?_; rintro e w1 ⟨W, v, rfl, hW, ⟨rfl, he1⟩, hk1⟩; have HE1 := Lib.hid he1; have HK1 := Lib.hid hk1; clear he1 hk1 hW)
      go_ret
      exact ⟨rfl, HE1.out, HK1.out⟩
    · have hok : okT l false = false := by simp only [okT, Bool.not_false, Bool.true_and, decide_eq_false_iff_not]; exact h
      have hv : valT l false = ⟨#[]⟩ := by simp [valT, hok]
      rw [hv, hok]
      clear hv hok
      go_enter Try.func26, Try.ntmps26
      go_wp2_with (go_at_call 53; refine (look53_no _ b g l HE.out (fun W hW => (text_no W b g l false (HE.out.before hW) _ rfl (by omega)))).mono ?_; rintro e w1 ⟨rfl, he1, hk1⟩; have HE1 := Lib.hid he1; have HK1 := Lib.hid hk1; clear he1 hk1)
      go_ret
      exact ⟨rfl, HE1.out, HK1.out⟩
  · have hok : okT l true = false := by simp [okT]
    have hv : valT l true = ⟨#[]⟩ := by simp [valT, hok]
    rw [hv, hok]
    clear hv hok
    go_enter Try.func26, Try.ntmps26
    go_wp2_with (go_at_call 53; refine (look53_blind _ b g l HE.out _).mono ?_; rintro e w1 ⟨rfl, hk1⟩; have HE1 := Lib.hid (HE.out.before hk1); have HK1 := Lib.hid hk1; clear hk1)
    go_ret
    exact ⟨rfl, HE1.out, HK1.out.mono fun _ _ h => h.elim⟩
theorem eyeText_nil (w : World) : Calls Try.prog 26 #[.pointer none] w fun e w' => e = .returned (.string (⟨#[]⟩)) ∧ Keeps (fun _ => False) w w' := by
  go_enter Try.func26, Try.ntmps26
  go_wp2_with (go_at_call 53; refine (look53_nil _ _).mono ?_; rintro e w1 ⟨rfl, hk1⟩; have HK1 := Lib.hid hk1; clear hk1)
  go_ret
  exact ⟨rfl, HK1.out⟩

set_option maxHeartbeats 1000000 in
theorem eyeBool_any (w : World) (b g : Nat) (l : List UInt8) (bl : Bool) (he : EyeAt w b g l bl) :
    Calls Try.prog 28 #[.pointer (some ⟨b, 0, none⟩)] w (Seen w b g (!okB l bl) (.bool (valB l bl)) (behind (okB l bl) 1 l)) := by
  have HE := Lib.hid he
  clear he
  cases bl
  · by_cases h : 1 ≤ l.length ∧ leN (l.take 1) ≤ 1
    · have hok : okB l false = true := by simp only [okB, Bool.not_false, Bool.true_and, decide_eq_true_eq]; exact h
      have hv : valB l false = decide (leN (l.take 1) = 1) := by simp [valB, hok]
      rw [hv, hok]
      clear hv hok
      go_enter Try.func28, Try.ntmps28
      go_wp2_with (go_at_call 55; refine (look55_yes _ b g l (fun _ v w' => v = .bool (decide (leN (l.take 1) = 1)) ∧ EyeAt w' b g (l.drop 1) false) HE.out (fun W hW => (bool_yes W b g l false (HE.out.before hW) h.1 _ rfl h.2).mono fun e w' ⟨h1, h2, h3⟩ => ⟨_, h1, ⟨rfl, h2⟩, h3⟩)).mono ?_; rintro e w1 ⟨W, v, rfl, hW, ⟨rfl, he1⟩, hk1⟩; have HE1 := Lib.hid he1; have HK1 := Lib.hid hk1; clear he1 hk1 hW)
      go_ret
      exact ⟨rfl, HE1.out, HK1.out⟩
    · have hok : okB l false = false := by simp only [okB, Bool.not_false, Bool.true_and, decide_eq_false_iff_not]; exact h
      have hv : valB l false = false := by simp [valB, hok]
      rw [hv, hok]
      clear hv hok
      go_enter Try.func28, Try.ntmps28
      go_wp2_with (go_at_call 55; refine (look55_no _ b g l HE.out (fun W hW => (bool_no W b g l false (HE.out.before hW) _ rfl (by omega)))).mono ?_; rintro e w1 ⟨rfl, he1, hk1⟩; have HE1 := Lib.hid he1; have HK1 := Lib.hid hk1; clear he1 hk1)
      go_ret
      exact ⟨rfl, HE1.out, HK1.out⟩
  · have hok : okB l true = false := by simp [okB]
    have hv : valB l true = false := by simp [valB, hok]
    rw [hv, hok]
    clear hv hok
    go_enter Try.func28, Try.ntmps28
    go_wp2_with (go_at_call 55; refine (look55_blind _ b g l HE.out _).mono ?_; rintro e w1 ⟨rfl, hk1⟩; have HE1 := Lib.hid (HE.out.before hk1); have HK1 := Lib.hid hk1; clear hk1)
    go_ret
    exact ⟨rfl, HE1.out, HK1.out.mono fun _ _ h => h.elim⟩
theorem eyeBool_nil (w : World) : Calls Try.prog 28 #[.pointer none] w fun e w' => e = .returned (.bool (false)) ∧ Keeps (fun _ => False) w w' := by
  go_enter Try.func28, Try.ntmps28
  go_wp2_with (go_at_call 55; refine (look55_nil _ _).mono ?_; rintro e w1 ⟨rfl, hk1⟩; have HK1 := Lib.hid hk1; clear hk1)
  go_ret
  exact ⟨rfl, HK1.out⟩

theorem res2 {w w1 : World} {S : Nat → Prop} (hk : Keeps S (w.alloc (Obj.cells #[Value.int IntKind.i64 0, Value.int IntKind.i64 0] 49)) w1) (hS : ¬ S w.heap.size) (x y : Int) :
    w1.cell? ⟨w.heap.size, 0, none⟩ = some (.int .i64 0) ∧ w1.cell? ⟨w.heap.size, 1, none⟩ = some (.int .i64 0) ∧ w1.frozen? ⟨w.heap.size, 0, none⟩ = false ∧ w1.frozen? ⟨w.heap.size, 1, none⟩ = false ∧
    ((w1.setCell ⟨w.heap.size, 0, none⟩ (.int .i64 x)).setCell ⟨w.heap.size, 1, none⟩ (.int .i64 y)).cell? ⟨w.heap.size, 0, none⟩ = some (.int .i64 x) ∧ ((w1.setCell ⟨w.heap.size, 0, none⟩ (.int .i64 x)).setCell ⟨w.heap.size, 1, none⟩ (.int .i64 y)).cell? ⟨w.heap.size, 1, none⟩ = some (.int .i64 y) ∧
    Keeps S w ((w1.setCell ⟨w.heap.size, 0, none⟩ (.int .i64 x)).setCell ⟨w.heap.size, 1, none⟩ (.int .i64 y)) ∧ Keeps (fun k => w.heap.size ≤ k) w1 ((w1.setCell ⟨w.heap.size, 0, none⟩ (.int .i64 x)).setCell ⟨w.heap.size, 1, none⟩ (.int .i64 y)) := by
  have hR : (w.alloc (Obj.cells #[Value.int IntKind.i64 0, Value.int IntKind.i64 0] 49)).heap[w.heap.size]? = some (.cells #[.int .i64 0, .int .i64 0] 49 (0, 0)) := heap_alloc_new w _
  have hR1 := (hk.block _ (lt_of_block hR) hS).trans hR
  have hR3 := block_setCell (i := 1) (block_setCell (i := 0) hR1 (.int .i64 x)) (.int .i64 y)
  exact ⟨by rw [cell_of_row _ _ _ _ _ _ hR1]; rfl, by rw [cell_of_row _ _ _ _ _ _ hR1]; rfl, frozen_of_row _ _ _ _ _ hR1, frozen_of_row _ _ _ _ _ hR1, by rw [cell_of_row _ _ _ _ _ _ hR3]; rfl, by rw [cell_of_row _ _ _ _ _ _ hR3]; rfl,
    kSet (kSet ((Keeps.alloc S w _).then hk) (.inr (Nat.le_refl _)) _) (.inr (Nat.le_refl _)) _,
    kSet (S := fun k => w.heap.size ≤ k) (p := ⟨w.heap.size, 1, none⟩) (kSet (S := fun k => w.heap.size ≤ k) (p := ⟨w.heap.size, 0, none⟩) (Keeps.refl _ _) (.inl (Nat.le_refl _)) _) (.inl (Nat.le_refl _)) _⟩

set_option maxHeartbeats 1000000 in
theorem eyeStamp_any (w : World) (b g : Nat) (l : List UInt8) (bl : Bool) (he : EyeAt w b g l bl) :
    Calls Try.prog 30 #[.pointer (some ⟨b, 0, none⟩)] w (Seen w b g (!okS l bl) (.agg #[.int .i64 (valS l bl).1, .int .i64 (valS l bl).2]) (behind (okS l bl) 16 l)) := by
  have HE := Lib.hid he
  clear he
  cases bl
  · by_cases h : 16 ≤ l.length
    · have hok : okS l false = true := by simp [okS, h]
      have hv : valS l false = (rd l, rd (l.drop 8)) := by simp [valS, hok, rdS]
      rw [hv, hok]
      clear hv hok
      go_enter Try.func30, Try.ntmps30
      go_wp2_with fail
      have hA : Keeps (fun _ => False) w (w.alloc (Obj.cells #[Value.int IntKind.i64 0, Value.int IntKind.i64 0] 49)) := Keeps.alloc _ _ _
      refine (look57_yes _ b g l (rd l) (rd (l.drop 8)) (l.drop 16) drop_ne (HE.out.before hA) (fun W hW => stamp_yes W b g l false (HE.out.before (hA.then hW)) h)).mono ?_; rintro e w1 ⟨rfl, he1, hk1⟩
      obtain ⟨r0, r1, rf0, rf1, s0, s1, hk2, hk12⟩ := res2 hk1 (kNew HE.out.lt 0) (rd l) (rd (l.drop 8))
      have HE2 := Lib.hid (he1.keep hk12 (fun h => absurd HE.out.lt (by omega)) (hgl he1 (fun h => HE.out.lt2 (drop_ne h))))
      have HK2 := Lib.hid hk2
      clear hk1 hk2 hk12 hA
      go_wp2
      exact bodyPost_ret (v := .agg #[.int .i64 (rd l), .int .i64 (rd (l.drop 8))]) (by simp [results, Try.results30, go_sem, s0, s1]) rfl ⟨rfl, HE2.out, HK2.out⟩
    · have hok : okS l false = false := by simp [okS, h]
      have hv : valS l false = (0, 0) := by simp [valS, hok]
      rw [hv, hok]
      clear hv hok
      go_enter Try.func30, Try.ntmps30
      go_wp2_with fail
      have hA : Keeps (fun _ => False) w (w.alloc (Obj.cells #[Value.int IntKind.i64 0, Value.int IntKind.i64 0] 49)) := Keeps.alloc _ _ _
      refine (look57_no _ b g l (HE.out.before hA) (fun W hW => stamp_no W b g l false (HE.out.before (hA.then hW)) (by omega))).mono ?_; rintro e w1 ⟨rfl, he1, hk1⟩
      obtain ⟨r0, r1, rf0, rf1, s0, s1, hk2, hk12⟩ := res2 hk1 (kNew HE.out.lt 0) (0) (0)
      have HE2 := Lib.hid (he1.keep hk12 (fun h => absurd HE.out.lt (by omega)) (hgl he1 (fun h => HE.out.lt2 h)))
      have HK2 := Lib.hid hk2
      clear hk1 hk2 hk12 hA
      go_wp2
      exact bodyPost_ret (v := .agg #[.int .i64 (0), .int .i64 (0)]) (by simp [results, Try.results30, go_sem, s0, s1]) rfl ⟨rfl, HE2.out, HK2.out⟩
  · have hok : okS l true = false := by simp [okS]
    have hv : valS l true = (0, 0) := by simp [valS, hok]
    rw [hv, hok]
    clear hv hok
    go_enter Try.func30, Try.ntmps30
    go_wp2_with fail
    have hA : Keeps (fun _ => False) w (w.alloc (Obj.cells #[Value.int IntKind.i64 0, Value.int IntKind.i64 0] 49)) := Keeps.alloc _ _ _
    refine (look57_blind _ b g l (HE.out.before hA) _).mono ?_; rintro e w1 ⟨rfl, hk0⟩; have hk1 : Keeps (Only b) _ w1 := hk0.mono fun _ _ h => h.elim; have he1 := (HE.out.before hA).before hk0; clear hk0
    obtain ⟨r0, r1, rf0, rf1, s0, s1, hk2, hk12⟩ := res2 hk1 (kNew HE.out.lt 0) (0) (0)
    have HE2 := Lib.hid (he1.keep hk12 (fun h => absurd HE.out.lt (by omega)) (hgl he1 (fun h => HE.out.lt2 h)))
    have HK2 := Lib.hid hk2
    clear hk1 hk2 hk12 hA
    go_wp2
    exact bodyPost_ret (v := .agg #[.int .i64 (0), .int .i64 (0)]) (by simp [results, Try.results30, go_sem, s0, s1]) rfl ⟨rfl, HE2.out, HK2.out⟩
set_option maxHeartbeats 1000000 in
theorem eyeStamp_nil (w : World) : Calls Try.prog 30 #[.pointer none] w fun e w' => e = .returned (.agg #[.int .i64 0, .int .i64 0]) ∧ Keeps (fun _ => False) w w' := by
  go_enter Try.func30, Try.ntmps30
  go_wp2_with fail
  have hA : Keeps (fun _ => False) w (w.alloc (Obj.cells #[Value.int IntKind.i64 0, Value.int IntKind.i64 0] 49)) := Keeps.alloc _ _ _
  refine (look57_nil _ _).mono ?_; rintro e w1 ⟨rfl, hk1⟩
  obtain ⟨r0, r1, rf0, rf1, s0, s1, hk2, hk12⟩ := res2 hk1 (fun h => h) (0) (0)
  skip
  have HK2 := Lib.hid hk2
  clear hk1 hk2 hk12 hA
  go_wp2
  exact bodyPost_ret (v := .agg #[.int .i64 (0), .int .i64 (0)]) (by simp [results, Try.results30, go_sem, s0, s1]) rfl ⟨rfl, HK2.out⟩

theorem eyeStamps_nil (w : World) : Calls Try.prog 33 #[.pointer none] w fun e w' => e = .returned (.slice none 0 0) ∧ Keeps (fun _ => False) w w' := by
  go_enter Try.func33, Try.ntmps33
  go_wp2_with (go_at_call 59; refine (look59_nil _ _).mono ?_; rintro e w1 ⟨rfl, hk1⟩; have HK1 := Lib.hid hk1; clear hk1)
  go_ret
  exact ⟨rfl, HK1.out⟩

/-- A new eye, upon a copy of its own. -/
def Opened (w : World) (l : List UInt8) (e : Ending) (w' : World) : Prop :=
  ∃ b g, e = .returned (.pointer (some ⟨b, 0, none⟩)) ∧ EyeAt w' b g l false ∧ w.heap.size ≤ b ∧ (l ≠ [] → w.heap.size ≤ g) ∧ Below w.heap.size w w'

set_option maxHeartbeats 1000000 in
theorem open_any (w : World) (g : Nat) (v : Value) (l : List UInt8) (h : Bs w g v l) (hlen : l.length ≤ 1099511627776) : Calls Try.prog 20 #[v] w (Opened w l) := by
  have HB := Lib.hid h
  clear h
  go_enter Try.func20, Try.ntmps20
  go_wp2_with (go_at_call 48; refine (clone_any _ g _ l HB.out hlen).mono ?_; rintro e w1 ⟨v1, g1, rfl, h1, h2, h3⟩; obtain ⟨a1, n1, c1, rfl⟩ := h1.form; have HR := Lib.hid h1; have HN := Lib.hid h2; have HW := Lib.hid h3; clear h1 h2 h3)
  go_ret
  have hg : l ≠ [] → ∃ k, g1 = some k := by
    intro hne
    cases hg1 : g1 with
    | some k => exact ⟨k, rfl⟩
    | none =>
      rcases HR.out.1.2 with ⟨_, h0⟩ | ⟨b, cap, cur, hv, _⟩
      · exact absurd (List.eq_nil_of_length_eq_zero h0) hne
      · have := HR.out.2; rw [hg1, hv] at this; cases this
  refine ⟨w1.heap.size, g1.getD 0, rfl, ⟨_, heap_alloc_new w1 _, HR.out.bs.keep (Keeps.alloc (fun _ => False) _ _) (fun _ h => h), fun hne => ?_⟩, HW.out.size, fun hne => ?_, HW.out.alloc HW.out.size _⟩
  · obtain ⟨k, rfl⟩ := hg hne
    exact Nat.ne_of_lt (HR.out.lt rfl)
  · obtain ⟨k, rfl⟩ := hg hne
    exact HN.out k rfl

set_option maxHeartbeats 1000000 in
theorem left_any (w : World) (b g : Nat) (l : List UInt8) (bl : Bool) (he : EyeAt w b g l bl) : Calls Try.prog 35 #[.pointer (some ⟨b, 0, none⟩)] w fun e w' => e = .returned (.int .i64 l.length) ∧ w = w' := by
  obtain ⟨v, hv, hb, _⟩ := he
  have c0 : w.cell? ⟨b, 0, none⟩ = some v := by rw [cell_of_row w _ _ _ _ _ hv]; rfl
  have hmax := hb.len
  have hf : ∃ a c, v = .slice a l.length c := by
    rcases hb with ⟨rfl, rfl⟩ | ⟨o, cap, rfl, _⟩
    · exact ⟨_, _, rfl⟩
    · exact ⟨_, _, rfl⟩
  obtain ⟨a, c, rfl⟩ := hf
  clear hv hb
  go_enter Try.func35, Try.ntmps35
  go_wp2
  go_ret
  exact ⟨rfl, rfl⟩
theorem left_nil (w : World) : Calls Try.prog 35 #[.pointer none] w fun e w' => e = .returned (.int .i64 0) ∧ w = w' := by
  go_enter Try.func35, Try.ntmps35
  go_wp2
  go_ret
  exact ⟨rfl, rfl⟩

/-- Done's number. -/
def doneN (l : List UInt8) (bl : Bool) : Int := if bl || !l.isEmpty then 20 else 0
set_option maxHeartbeats 1000000 in
theorem done_any (w : World) (b g : Nat) (l : List UInt8) (bl : Bool) (he : EyeAt w b g l bl) : Calls Try.prog 37 #[.pointer (some ⟨b, 0, none⟩)] w fun e w' => e = .returned (.int .i64 (doneN l bl)) ∧ w = w' := by
  obtain ⟨v, hv, hb, _⟩ := he
  have c0 : w.cell? ⟨b, 0, none⟩ = some v := by rw [cell_of_row w _ _ _ _ _ hv]; rfl
  have c1 : w.cell? ⟨b, 1, none⟩ = some (.bool bl) := by rw [cell_of_row w _ _ _ _ _ hv]; rfl
  have hmax := hb.len
  have hf : ∃ a c, v = .slice a l.length c := by
    rcases hb with ⟨rfl, rfl⟩ | ⟨o, cap, rfl, _⟩
    · exact ⟨_, _, rfl⟩
    · exact ⟨_, _, rfl⟩
  obtain ⟨a, c, rfl⟩ := hf
  clear hv hb
  cases bl
  · by_cases hl : l = []
    · subst hl
      have hd : doneN [] false = 0 := rfl
      rw [hd]
      go_enter Try.func37, Try.ntmps37
      go_wp2
      go_ret
      exact ⟨rfl, rfl⟩
    · have hd : doneN l false = 20 := by
        cases l with
        | nil => exact absurd rfl hl
        | cons x r => rfl
      have hpos : 0 < l.length := List.length_pos_iff.2 hl
      rw [hd]
      clear hd hl
      go_enter Try.func37, Try.ntmps37
      go_wp2
      go_ret
      exact ⟨rfl, rfl⟩
  · have hd : doneN l true = 20 := rfl
    rw [hd]
    go_enter Try.func37, Try.ntmps37
    go_wp2
    go_ret
    exact ⟨rfl, rfl⟩
theorem done_nil (w : World) : Calls Try.prog 37 #[.pointer none] w fun e w' => e = .returned (.int .i64 0) ∧ w = w' := by
  go_enter Try.func37, Try.ntmps37
  go_wp2
  go_ret
  exact ⟨rfl, rfl⟩
theorem num_any (n : Int) (w : World) : Calls Try.prog 36 #[.int .i64 n] w fun e w' => e = .returned (.int .i64 n) ∧ w = w' := by
  go_enter Try.func36, Try.ntmps36
  go_wp2
  go_ret
  exact ⟨rfl, rfl⟩

/-- The sum, a byte on; of bytes. -/
def sumStep (h : Int) (x : UInt8) : Int := IntKind.u64.wrap (bits .xor .u64 h (IntKind.u64.wrap x.toNat) * 1099511628211)
def sumL (l : List UInt8) : Int := l.foldl sumStep 14695981039346656037
theorem sumL_snoc (l : List UInt8) (x : UInt8) : sumL (l ++ [x]) = sumStep (sumL l) x := by simp [sumL]
theorem take_snoc' {l : List UInt8} {j : Nat} {x : UInt8} (h : l[j]? = some x) : l.take (j + 1) = l.take j ++ [x] := by
  obtain ⟨hj, rfl⟩ := List.getElem?_eq_some_iff.1 h
  exact List.take_succ_eq_append_getElem hj

set_option maxRecDepth 100000 in
set_option maxHeartbeats 1000000 in
theorem sum_any (w : World) (g : Nat) (v : Value) (l : List UInt8) (h : Bs w g v l) : Calls Try.prog 22 #[v] w fun e w' => e = .returned (.int .u64 (sumL l)) ∧ w = w' := by
  have HB := Lib.hid h
  have hmax := h.len
  unfold maxLen at hmax
  have hf : ∃ a c, v = .slice a l.length c := by
    rcases h with ⟨rfl, rfl⟩ | ⟨o, cap, rfl, _⟩
    · exact ⟨_, _, rfl⟩
    · exact ⟨_, _, rfl⟩
  obtain ⟨a, c, rfl⟩ := hf
  clear h
  go_enter Try.func22, Try.ntmps22
  go_wp2
  go_loop [3, 8] (fun s i => ∃ j : Nat, j ≤ l.length ∧ i = .int .i64 j ∧ s = .int .u64 (sumL (l.take j))) (fun _ i => l.length - (intOf i).toNat)
  case atStart => exact ⟨0, Nat.zero_le _, rfl, rfl⟩
  case round =>
    obtain ⟨j, hj, rfl, rfl⟩ := hrel
    by_cases hlt : j < l.length
    · obtain ⟨x, hx⟩ := get_lt hlt
      rcases HB.out with ⟨_, h0⟩ | ⟨o, cap, he, _, _, h3⟩
      · rw [h0] at hlt; simp at hlt
      · simp only [Value.slice.injEq, true_and] at he
        obtain ⟨rfl, rfl⟩ := he
        have cx := h3 j x hx
        unfold bv at cx
        have HS : Hid (sumL (l.take (j + 1)) = sumStep (sumL (l.take j)) x) := by show _ = _; rw [take_snoc' hx, sumL_snoc]
        clear h3 hx
        go_wp2
        go_round
        case rel => exact ⟨j + 1, hlt, by go_num, by rw [HS.out]; rfl⟩
        case measure => simp [intOf]; omega
    · obtain rfl : j = l.length := by omega
      go_wp2
      go_ret
      exact ⟨by first | rfl | rw [List.take_length], rfl⟩

end Go.Proofs.Ytjojjpfjennnoaa
