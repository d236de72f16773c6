/- An eye upon what was laid; upon what was laid and then cut; two lists of stamps that are the same. Conditions: as each theorem states. -/
import Derived.Test.YtjojjpfjennnoaaHa
namespace Go.Proofs.Ytjojjpfjennnoaa
open Go.RowKit Go.Deep

theorem frontI (w : World) (b g : Nat) (n : Int) (R : List UInt8) (he : EyeAt w b g (i8 n ++ R) false) (hw : (Lit.int .i64 n).wf = true) : Calls Try.prog 24 #[.pointer (some ⟨b, 0, none⟩)] w (Seen w b g false (.int .i64 n) R) := by
  have h := eyeInt_any w b g _ false he
  obtain ⟨h1, h2, h3⟩ := read_i n hw R
  rw [h1, h2, h3] at h
  exact h
theorem frontT (w : World) (b g : Nat) (s : ByteArray) (R : List UInt8) (he : EyeAt w b g (tx s ++ R) false) (hs : s.size ≤ 1048576) : Calls Try.prog 26 #[.pointer (some ⟨b, 0, none⟩)] w (Seen w b g false (.string s) R) := by
  have h := eyeText_any w b g _ false he
  obtain ⟨h1, h2, h3⟩ := read_t s hs R
  rw [h1, h2, h3] at h
  exact h
theorem frontB (w : World) (b g : Nat) (t : Bool) (R : List UInt8) (he : EyeAt w b g (tb t ++ R) false) : Calls Try.prog 28 #[.pointer (some ⟨b, 0, none⟩)] w (Seen w b g false (.bool t) R) := by
  have h := eyeBool_any w b g _ false he
  obtain ⟨h1, h2, h3⟩ := read_b t R
  rw [h1, h2, h3] at h
  exact h
theorem frontS (w : World) (b g : Nat) (x y : Int) (R : List UInt8) (he : EyeAt w b g (st (x, y) ++ R) false) (h1 : (Lit.int .i64 x).wf = true) (h2 : (Lit.int .i64 y).wf = true) : Calls Try.prog 30 #[.pointer (some ⟨b, 0, none⟩)] w (Seen w b g false (.agg #[.int .i64 x, .int .i64 y]) R) := by
  have h := eyeStamp_any w b g _ false he
  obtain ⟨r1, r2, r3⟩ := read_s (x, y) h1 h2 R
  rw [r1, r2, r3] at h
  exact h
theorem frontL (w : World) (b g : Nat) (l : List (Int × Int)) (R : List UInt8) (he : EyeAt w b g (sts l ++ R) false) (hl : l.length ≤ 1250) (hw : ∀ s ∈ l, (Lit.int .i64 s.1).wf = true ∧ (Lit.int .i64 s.2).wf = true) (hlen : (sts l ++ R).length ≤ 1000000) :
    Calls Try.prog 33 #[.pointer (some ⟨b, 0, none⟩)] w (SeenSl w b g false l R) := by
  have h := eyeStamps_any w b g _ false he hlen
  obtain ⟨r1, r2, r3⟩ := read_l l hw hl R
  rw [r1, r2, r3] at h
  exact h

/-- An eye is blind, or what it has before it is less than all of R, and R's beginning. -/
def Cut (r : List UInt8) (bl : Bool) (R : List UInt8) : Prop := bl = true ∨ ∃ t, t ≠ [] ∧ r ++ t = R
theorem Cut.blind {r : List UInt8} {R : List UInt8} : Cut r true R := .inl rfl
theorem cut_end {r : List UInt8} {bl : Bool} (h : Cut r bl []) : bl = true := by
  rcases h with h | ⟨t, ht, h⟩
  · exact h
  · exact absurd (List.append_eq_nil_iff.1 h).2 ht
theorem cut_step {r t M R : List UInt8} (h : r ++ t = M ++ R) (hr : M.length ≤ r.length) : r.drop M.length ++ t = R := by
  have h1 : (r ++ t).drop M.length = (M ++ R).drop M.length := by rw [h]
  rw [List.drop_append_of_le_length hr, List.drop_left] at h1
  exact h1
theorem cut_take {r t M : List UInt8} (h : r ++ t = M) (k : Nat) (hr : k ≤ r.length) : r.take k = M.take k := by rw [← h, List.take_append_of_le_length hr]
/-- What a reading of a cut eye comes to. -/
def CutTo (w : World) (b g m : Nat) (R : List UInt8) (e : Ending) (w' : World) : Prop :=
  ∃ v, e = .returned v ∧ ∃ r' bl', EyeAt w' b g r' bl' ∧ r'.length ≤ m ∧ Cut r' bl' R ∧ Keeps (Only b) w w'
theorem behind_len (ok : Bool) (k : Nat) (l : List UInt8) : (behind ok k l).length ≤ l.length := by
  cases ok
  · rw [behind_no]; exact Nat.le_refl _
  · rw [behind_yes, List.length_drop]; omega
theorem cut_of {r M R : List UInt8} {bl : Bool} (ok : Bool) (k : Nat) (h : Cut r bl (M ++ R)) (hb : bl = true → ok = false) (hk : ∀ t, r ++ t = M ++ R → ok = true → k = M.length ∧ k ≤ r.length) : Cut (behind ok k r) (!ok) R := by
  cases ok
  · exact .inl rfl
  · rcases h with h | ⟨t, ht, h⟩
    · exact absurd (hb h) (by simp)
    · obtain ⟨rfl, h2⟩ := hk t h rfl
      right
      refine ⟨t, ht, ?_⟩
      rw [behind_yes]
      exact cut_step h h2
theorem cutI (w : World) (b g : Nat) (r : List UInt8) (bl : Bool) (n : Int) (R : List UInt8) (m : Nat) (he : EyeAt w b g r bl) (hm : r.length ≤ m) (h : Cut r bl (i8 n ++ R)) : Calls Try.prog 24 #[.pointer (some ⟨b, 0, none⟩)] w (CutTo w b g m R) :=
  (eyeInt_any w b g r bl he).mono fun _ _ ⟨h1, h2, h3⟩ => ⟨_, h1, _, _, h2, Nat.le_trans (behind_len _ _ _) hm, cut_of _ _ h (fun e => by rw [e]; rfl) (fun t _ ok => by
    unfold okI at ok
    simp only [Bool.and_eq_true, decide_eq_true_eq] at ok
    exact ⟨(i8_length n).symm, ok.2⟩), h3⟩
theorem cutB (w : World) (b g : Nat) (r : List UInt8) (bl : Bool) (n : Bool) (R : List UInt8) (m : Nat) (he : EyeAt w b g r bl) (hm : r.length ≤ m) (h : Cut r bl (tb n ++ R)) : Calls Try.prog 28 #[.pointer (some ⟨b, 0, none⟩)] w (CutTo w b g m R) :=
  (eyeBool_any w b g r bl he).mono fun _ _ ⟨h1, h2, h3⟩ => ⟨_, h1, _, _, h2, Nat.le_trans (behind_len _ _ _) hm, cut_of _ _ h (fun e => by rw [e]; rfl) (fun t _ ok => by
    unfold okB at ok
    simp only [Bool.and_eq_true, decide_eq_true_eq] at ok
    exact ⟨(low_length _ _).symm, ok.2.1⟩), h3⟩
theorem cutS (w : World) (b g : Nat) (r : List UInt8) (bl : Bool) (n : Int × Int) (R : List UInt8) (m : Nat) (he : EyeAt w b g r bl) (hm : r.length ≤ m) (h : Cut r bl (st n ++ R)) : Calls Try.prog 30 #[.pointer (some ⟨b, 0, none⟩)] w (CutTo w b g m R) :=
  (eyeStamp_any w b g r bl he).mono fun _ _ ⟨h1, h2, h3⟩ => ⟨_, h1, _, _, h2, Nat.le_trans (behind_len _ _ _) hm, cut_of _ _ h (fun e => by rw [e]; rfl) (fun t _ ok => by
    unfold okS at ok
    simp only [Bool.and_eq_true, decide_eq_true_eq] at ok
    exact ⟨(st_length n).symm, ok.2⟩), h3⟩
theorem cutT (w : World) (b g : Nat) (r : List UInt8) (bl : Bool) (s : ByteArray) (hs : s.size ≤ 1048576) (R : List UInt8) (m : Nat) (he : EyeAt w b g r bl) (hm : r.length ≤ m) (h : Cut r bl (tx s ++ R)) : Calls Try.prog 26 #[.pointer (some ⟨b, 0, none⟩)] w (CutTo w b g m R) :=
  (eyeText_any w b g r bl he).mono fun _ _ ⟨h1, h2, h3⟩ => ⟨_, h1, _, _, h2, Nat.le_trans (behind_len _ _ _) hm, cut_of _ _ h (fun e => by rw [e]; rfl) (fun t ht ok => by
    unfold okT at ok
    simp only [Bool.and_eq_true, decide_eq_true_eq, List.length_drop] at ok
    obtain ⟨_, o1, _, o2⟩ := ok
    have e := tx_take s hs R
    rw [← cut_take ht 4 o1] at e
    rw [tx_length]
    omega), h3⟩
theorem cutL (w : World) (b g : Nat) (r : List UInt8) (bl : Bool) (l : List (Int × Int)) (hl : l.length ≤ 1250) (R : List UInt8) (m : Nat) (he : EyeAt w b g r bl) (hm : r.length ≤ m) (hm2 : m ≤ 1000000) (h : Cut r bl (sts l ++ R)) : Calls Try.prog 33 #[.pointer (some ⟨b, 0, none⟩)] w (CutTo w b g m R) :=
  (eyeStamps_any w b g r bl he (Nat.le_trans hm hm2)).mono fun _ _ ⟨_, _, _, h1, _, _, h2, h3⟩ => ⟨_, h1, _, _, h2, Nat.le_trans (behind_len _ _ _) hm, cut_of _ _ h (fun e => by rw [e]; rfl) (fun t ht ok => by
    unfold okL at ok
    simp only [Bool.and_eq_true, decide_eq_true_eq] at ok
    obtain ⟨_, ok⟩ := ok
    unfold hasL at ok
    obtain ⟨o1, _, o2⟩ := ok
    have e := rd_sts l hl R
    have e2 : rd r = rd (sts l ++ R) := by unfold rd; rw [cut_take ht 8 o1]
    rw [← e2] at e
    rw [sts_len, e, Int.toNat_natCast]
    rw [e, Int.toNat_natCast] at o2
    omega), h3⟩

set_option maxRecDepth 100000 in
set_option maxHeartbeats 1000000 in
theorem same_any (g g' : Nat) (a a' : Option Addr) (cap cap' : Nat) (l : List (Int × Int)) (w : World) (hlen : l.length ≤ 1000000) (hl : SL w g a l) (hl' : SL w g' a' l) (hg : l ≠ [] → g < w.heap.size) (hg' : l ≠ [] → g' < w.heap.size) :
    Calls Try.prog 32 #[.slice a l.length cap, .slice a' l.length cap'] w fun e w' => e = .returned (.bool true) ∧ Below w.heap.size w w' := by
  have HL := Lib.hid hl
  have HL' := Lib.hid hl'
  have HG := Lib.hid hg
  have HG' := Lib.hid hg'
  clear hl hl' hg hg'
  go_enter Try.func32, Try.ntmps32
  go_wp2
  go_loopw [5] (fun i wr => ∃ k : Nat, k ≤ l.length ∧ i = .int .i64 k ∧ Below w.heap.size w wr) (fun i _ => l.length - (intOf i).toNat)
  case atStart => exact ⟨0, Nat.zero_le _, rfl, Below.refl _ _⟩
  case round =>
    obtain ⟨k, hk, rfl, hbel⟩ := hrel
    have HB := Lib.hid hbel
    by_cases hlt : k < l.length
    · obtain ⟨⟨x, y⟩, hxy⟩ := get_lt hlt
      have hb := HG.out (not_nil hlt)
      have hb' := HG'.out (not_nil hlt)
      obtain ⟨o, rfl, hc⟩ := HL.out (not_nil hlt)
      obtain ⟨o', rfl, hc'⟩ := HL'.out (not_nil hlt)
      have hx := (hbel.cell (p := ⟨g, o + k * 2, none⟩) hb).trans (hc k x y hxy).1
      have hy := (hbel.cell (p := ⟨g, o + k * 2 + 1, none⟩) hb).trans (hc k x y hxy).2
      have hx' := (hbel.cell (p := ⟨g', o' + k * 2, none⟩) hb').trans (hc' k x y hxy).1
      have hy' := (hbel.cell (p := ⟨g', o' + k * 2 + 1, none⟩) hb').trans (hc' k x y hxy).2
      have hbw : g < wr.heap.size := Nat.lt_of_lt_of_le hb HB.out.size
      have hbw' : g' < wr.heap.size := Nat.lt_of_lt_of_le hb' HB.out.size
      clear hc hc' hxy hbel
      go_wp2_with fail
      refine region_aft (by kernel_rfl) (by kernel_rfl) ?_
      repeat (go_big_quiet_step (fail))
      refine wpQuiet_nil ?_
      rintro w2 ⟨z, rfl⟩
      go_wp2
      go_roundw
      case rel => exact ⟨k + 1, hlt, by go_num, HB.out.trans (z.h.mono HB.out.size)⟩
      case measure => simp [intOf]; omega
    · go_wp2
      go_ret
      exact ⟨rfl, HB.out⟩

end Go.Proofs.Ytjojjpfjennnoaa
