/- Contracts of the reference's Has, After, List and Same. Conditions: lists of at most a million stamps. -/
import Derived.Test.YtnicdbkjgicliaaSv
namespace Go.Proofs.Ytnicdbkjgicliaa
open Go.RowKit Go.Sort

set_option maxHeartbeats 1000000 in
theorem refhas_any (a : Option Addr) (cap : Nat) (l : List (Int × Int)) (t n : Int) (w : World) (hlen : l.length ≤ 1000000) (hl : SL w a l) :
    Calls Try.prog 29 #[.slice a l.length cap, .agg #[.int .i64 t, .int .i64 n]] w fun e w' => e = .returned (.bool (decide ((t, n) ∈ l))) ∧ Below w.heap.size w w' := by
  have HL := Lib.hid hl
  clear hl
  generalize hv : decide ((t, n) ∈ l) = v
  have HV := Lib.hid hv
  clear hv
  go_enter Try.func29, Try.ntmps29
  go_wp2
  have hB1 : Hid (Below w.heap.size w (w.alloc (Obj.cells #[Value.int IntKind.i64 t, Value.int IntKind.i64 n] 23))) := (Below.refl _ _).alloc (Nat.le_refl _) _
  have hN : Own2 (w.alloc (Obj.cells #[Value.int IntKind.i64 t, Value.int IntKind.i64 n] 23)) w.heap.size t n := own2_new _ _ _
  generalize w.alloc (Obj.cells #[Value.int IntKind.i64 t, Value.int IntKind.i64 n] 23) = W at *
  have HN := Lib.hid hN
  have hS := hN.lt
  clear hN
  go_loopw [5] (fun i wr => ∃ k : Nat, k ≤ l.length ∧ i = .int .i64 k ∧ (∀ j, j < k → l[j]? ≠ some (t, n)) ∧ Below W.heap.size W wr) (fun i _ => l.length - (intOf i).toNat)
  case atStart => exact ⟨0, Nat.zero_le _, rfl, fun j h => absurd h (Nat.not_lt_zero _), Below.refl _ _⟩
  case round =>
    obtain ⟨k, hk, rfl, hno, hbel⟩ := hrel
    have HNO := Lib.hid hno
    have HB := Lib.hid hbel
    have hN2 := HN.out.later hbel hS
    have hc0 := hN2.c0
    have hc1 := hN2.c1
    have hsz : w.heap.size < wr.heap.size := hN2.lt
    have HBW := Lib.hid (hB1.out.trans (hbel.mono (Nat.le_of_lt hS)))
    clear hbel hno hN2
    by_cases hlt : k < l.length
    · obtain ⟨x, y, hxy⟩ := at_lt hlt
      obtain ⟨b, o, rfl, hb, hl⟩ := HL.out (ne_of_lt hlt)
      obtain ⟨hx, hy⟩ := hl.later hb HBW.out k x y hxy
      have hbw : b < wr.heap.size := Nat.lt_of_lt_of_le hb HBW.out.size
      have HXY := Lib.hid hxy
      clear hxy hl
      have hin := fun h : x = t ∧ y = n => mem_of_at (l := l) (s := (t, n)) (k := k) (by rw [HXY.out, h.1, h.2])
      have HIN := Lib.hid hin
      have hstep : ¬ (x = t ∧ y = n) → ∀ j, j < k + 1 → l[j]? ≠ some (t, n) := by
        intro hne j hj he
        rcases Nat.lt_or_ge j k with h | h
        · exact HNO.out j h he
        · obtain rfl : j = k := by omega
          rw [HXY.out] at he
          simp only [Option.some.injEq, Prod.mk.injEq] at he
          exact hne he
      have HST := Lib.hid hstep
      clear hin hstep
      by_cases h1 : x = t
      · by_cases h2 : y = n
        · subst h1 h2
          go_wp2_with fail
          refine region_aft (by kernel_rfl) (by kernel_rfl) ?_
          repeat (go_big_quiet_step (fail))
          refine wpQuiet_nil ?_
          rintro w2 ⟨z, rfl⟩
          go_wp2
          go_ret
          exact ⟨ret_bool ((HIN.out (by simp)).symm.trans HV.out), blThen HBW.out z.h⟩
        · subst h1
          have HNE := Lib.hid (fun h : x = x ∧ y = n => h2 h.2)
          have h2b : (y == n) = false := by simpa using h2
          clear h2
          go_wp2_with fail
          refine region_aft (by kernel_rfl) (by kernel_rfl) ?_
          repeat (go_big_quiet_step (fail))
          refine wpQuiet_nil ?_
          rintro w2 ⟨z, rfl⟩
          go_wp2
          go_roundw
          case rel => exact ⟨k + 1, hlt, by go_num, HST.out HNE.out, HB.out.trans (z.h.mono HB.out.size)⟩
          case measure => simp [intOf]; omega
      · have HNE := Lib.hid (fun h : x = t ∧ y = n => h1 h.1)
        have h1b : (x == t) = false := by simpa using h1
        clear h1
        go_wp2_with fail
        refine region_aft (by kernel_rfl) (by kernel_rfl) ?_
        repeat (go_big_quiet_step (fail))
        refine wpQuiet_nil ?_
        rintro w2 ⟨z, rfl⟩
        go_wp2
        go_roundw
        case rel => exact ⟨k + 1, hlt, by go_num, HST.out HNE.out, HB.out.trans (z.h.mono HB.out.size)⟩
        case measure => simp [intOf]; omega
    · go_wp2
      go_ret
      exact ⟨ret_bool ((not_mem_of_none fun j hj => HNO.out j (by omega)).symm.trans HV.out), HBW.out⟩

def tmax (l : List (Int × Int)) : Int := l.foldl (fun t s => if t < s.1 then s.1 else t) 0
theorem tmax_take (l : List (Int × Int)) (k : Nat) (x y : Int) (h : l[k]? = some (x, y)) : tmax (l.take (k + 1)) = if tmax (l.take k) < x then x else tmax (l.take k) := by
  unfold tmax
  rw [List.take_add_one, h]
  simp [List.foldl_append]
theorem tmax_spec (l : List (Int × Int)) : (tmax l = 0 ∨ ∃ s ∈ l, tmax l = s.1) ∧ 0 ≤ tmax l ∧ ∀ s ∈ l, s.1 ≤ tmax l := by
  unfold tmax
  suffices h : ∀ t0 : Int, (l.foldl (fun t s => if t < s.1 then s.1 else t) t0 = t0 ∨ ∃ s ∈ l, l.foldl (fun t s => if t < s.1 then s.1 else t) t0 = s.1) ∧ t0 ≤ l.foldl (fun t s => if t < s.1 then s.1 else t) t0 ∧ ∀ s ∈ l, s.1 ≤ l.foldl (fun t s => if t < s.1 then s.1 else t) t0 from h 0
  induction l with
  | nil => intro t0; simp
  | cons a r ih =>
    intro t0
    obtain ⟨h1, h2, h3⟩ := ih (if t0 < a.1 then a.1 else t0)
    simp only [List.foldl_cons]
    generalize List.foldl (fun t s => if t < s.1 then s.1 else t) (if t0 < a.1 then a.1 else t0) r = m at *
    refine ⟨?_, ?_, ?_⟩
    · rcases h1 with h1 | ⟨s, hs, h1⟩
      · by_cases hc : t0 < a.1
        · rw [if_pos hc] at h1; exact .inr ⟨a, by simp, h1⟩
        · rw [if_neg hc] at h1; exact .inl h1
      · exact .inr ⟨s, by simp [hs], h1⟩
    · split at h2 <;> omega
    · intro s hs
      rcases List.mem_cons.1 hs with rfl | hs
      · split at h2 <;> omega
      · exact h3 s hs
theorem tmax_eq (l : List (Int × Int)) (h : l.all okS = true) : tmax l = (maxL l).1 ∧ tmax l ≤ 1099511627776 := by
  obtain ⟨h1, h2, h3⟩ := tmax_spec l
  have hok : ∀ s ∈ l, 0 ≤ s.1 ∧ s.1 ≤ 1099511627776 := by
    intro s hs
    have := List.all_eq_true.1 h s hs
    simp only [okS, isS, Bool.or_eq_true, decide_eq_true_eq] at this
    rcases this with h | h
    · subst h; simp
    · omega
  constructor
  · by_cases hne : l = []
    · subst hne; rfl
    · have hm := maxL_mem l hne
      have hge := maxL_ge l
      have a1 := h3 _ hm
      have a2 := (hok _ hm).1
      rcases h1 with h1 | ⟨s, hs, h1⟩
      · omega
      · have := hge s hs
        rw [ltS_not] at this
        omega
  · rcases h1 with h1 | ⟨s, hs, h1⟩
    · omega
    · have := hok s hs; omega

set_option maxHeartbeats 1000000 in
theorem refafter_any (n : Int) (a : Option Addr) (cap : Nat) (l : List (Int × Int)) (w : World) (hlen : l.length ≤ 1000000) (hl : SL w a l) :
    Calls Try.prog 21 #[.int .i64 n, .slice a l.length cap] w fun e w' => e = .returned (.tuple #[.agg #[.int .i64 (afterS n l).1, .int .i64 (afterS n l).2.1], .int .i64 (afterS n l).2.2]) ∧ Below w.heap.size w w' := by
  have HL := Lib.hid hl
  clear hl
  by_cases n1 : n < 1
  · have hv : afterS n l = (0, 0, 2) := by simp [afterS, nodeS]; omega
    rw [hv]
    clear hv
    go_enter Try.func21, Try.ntmps21
    go_wp2
    exact bodyPost_ret (v := .tuple #[.agg #[.int .i64 0, .int .i64 0], .int .i64 2]) (by simp [results, Try.results21, go_sem]) rfl ⟨rfl, (Below.refl _ _).alloc (Nat.le_refl _) _⟩
  by_cases n2 : 7 < n
  · have hv : afterS n l = (0, 0, 2) := by simp [afterS, nodeS]; omega
    rw [hv]
    clear hv
    go_enter Try.func21, Try.ntmps21
    go_wp2
    exact bodyPost_ret (v := .tuple #[.agg #[.int .i64 0, .int .i64 0], .int .i64 2]) (by simp [results, Try.results21, go_sem]) rfl ⟨rfl, (Below.refl _ _).alloc (Nat.le_refl _) _⟩
  have hv : afterS n l = if l.all okS then nextS n (maxL l).1 else (0, 0, 10) := by
    have : nodeS n = true := by simp [nodeS]; omega
    simp [afterS, this]
  obtain ⟨vt, vn, ve, hvv⟩ : ∃ vt vn ve, afterS n l = (vt, vn, ve) := ⟨_, _, _, rfl⟩
  rw [hvv]
  have HV := Lib.hid (hvv.symm.trans hv)
  clear hv hvv
  go_enter Try.func21, Try.ntmps21
  go_wp2
  have hB0 : Below w.heap.size w (w.alloc (Obj.cells #[Value.int IntKind.i64 0, Value.int IntKind.i64 0] 23)) := (Below.refl _ _).alloc (Nat.le_refl _) _
  have hR0 := own2_new w 0 0
  generalize w.alloc (Obj.cells #[Value.int IntKind.i64 0, Value.int IntKind.i64 0] 23) = W at *
  have HB0 := Lib.hid hB0
  have HR0 := Lib.hid hR0
  have hS := hR0.lt
  clear hB0 hR0
  go_loopw [6, 7] (fun t i wr => ∃ k : Nat, k ≤ l.length ∧ i = .int .i64 k ∧ t = .int .i64 (tmax (l.take k)) ∧ Below W.heap.size W wr ∧ ∀ (j : Nat) (x y : Int), j < k → l[j]? = some (x, y) → okS (x, y) = true) (fun _ i _ => l.length - (intOf i).toNat)
  case atStart => exact ⟨0, Nat.zero_le _, rfl, rfl, Below.refl _ _, fun j x y h => absurd h (Nat.not_lt_zero _)⟩
  case round =>
    obtain ⟨k, hk, rfl, rfl, hbel, hok⟩ := hrel
    obtain ⟨m, hm⟩ : ∃ m, tmax (l.take k) = m := ⟨_, rfl⟩
    rw [hm]
    have HM := Lib.hid hm
    have HB := Lib.hid hbel
    have HO := Lib.hid hok
    have hR1 := HR0.out.later hbel hS
    have r0 := hR1.c0
    have r1 := hR1.c1
    have rf0 := hR1.f0
    have rf1 := hR1.f1
    have hsz : w.heap.size < wr.heap.size := hR1.lt
    have HR := Lib.hid hR1
    have HBW := Lib.hid (HB0.out.trans (hbel.mono (Nat.le_of_lt hS)))
    clear hbel hok hR1 hm
    by_cases hlt : k < l.length
    · obtain ⟨x, y, hxy⟩ := at_lt hlt
      obtain ⟨b, o, rfl, hb, hl⟩ := HL.out (ne_of_lt hlt)
      obtain ⟨hx, hy⟩ := hl.later hb HBW.out k x y hxy
      have hbw : b < wr.heap.size := Nat.lt_of_lt_of_le hb HBW.out.size
      have HXY := Lib.hid hxy
      clear hxy hl
      have hstep : okS (x, y) = true → ∀ (j : Nat) (x' y' : Int), j < k + 1 → l[j]? = some (x', y') → okS (x', y') = true := by
        intro h j x' y' hj he
        rcases Nat.lt_or_ge j k with h' | h'
        · exact HO.out j x' y' h' he
        · obtain rfl : j = k := by omega
          have := HXY.out.symm.trans he
          simp only [Option.some.injEq, Prod.mk.injEq] at this
          obtain ⟨rfl, rfl⟩ := this
          exact h
      have HST := Lib.hid hstep
      have HTK := Lib.hid (tmax_take l k x y HXY.out)
      clear hstep
      by_cases hz : x = 0 ∧ y = 0
      · obtain ⟨rfl, rfl⟩ := hz
        have HKK : Hid (okS (0, 0) = true) := by show okS (0, 0) = true; simp [okS]
        by_cases hmx : m < 0
        · have HMX := Lib.hid hmx
          go_wp2
          go_roundw
          case rel => exact ⟨k + 1, hlt, by go_num, by rw [HTK.out, HM.out, if_pos (by have := HMX.out; omega)], HB.out, HST.out HKK.out⟩
          case measure => simp [intOf]; omega
        · have HMX := Lib.hid hmx
          go_wp2
          go_roundw
          case rel => exact ⟨k + 1, hlt, by go_num, by rw [HTK.out, HM.out, if_neg (by have := HMX.out; omega)], HB.out, HST.out HKK.out⟩
          case measure => simp [intOf]; omega
      · have hnz : decide ((x, y) = ((0, 0) : Int × Int)) = false := by simpa using hz
        have hor : (¬ x = 0) ∨ (x = 0 ∧ ¬ y = 0) := by omega
        cases hs : isS (x, y)
        · have hv : (vt, vn, ve) = (0, 0, 10) := by
            rw [HV.out, not_all_ok HXY.out (by simp only [okS, hnz, hs, Bool.or_self])]
            rfl
          simp only [Prod.mk.injEq] at hv
          obtain ⟨rfl, rfl, rfl⟩ := hv
          have HC := Lib.hid hs
          clear hs hnz HST HV HO hz HM HTK
          rcases hor with hx0 | ⟨rfl, hy0⟩
          all_goals
            go_wp2_with (go_at_call 16; refine (is_any _ _ _).mono ?_; rintro e w' ⟨rfl, q, os, rfl⟩; rw [HC.out])
            exact bodyPost_ret (v := .tuple #[.agg #[.int .i64 0, .int .i64 0], .int .i64 10]) (by simp [results, Try.results21, go_sem, *]) rfl ⟨rfl, by repeat (first | with_reducible exact HBW.out | with_reducible refine blAlloc ?_ _ | with_reducible refine blGrown ?_ _ _ | (with_reducible refine blSet ?_ ?_ _; rotate_left; exact Nat.le_refl _))⟩
        · have HKK : Hid (okS (x, y) = true) := by show okS (x, y) = true; simp [okS, hs]
          have HC := Lib.hid hs
          have kx := cell_grown hx
          clear hs hnz hz
          rcases hor with hx0 | ⟨rfl, hy0⟩
          · by_cases hmx : m < x
            · have HMX := Lib.hid hmx
              go_wp2_with (go_at_call 16; refine (is_any _ _ _).mono ?_; rintro e w' ⟨rfl, q, os, rfl⟩; rw [HC.out])
              go_roundw
              case rel => exact ⟨k + 1, hlt, by go_num, by rw [HTK.out, HM.out, if_pos (by have := HMX.out; omega)], blGrown HB.out _ _, HST.out HKK.out⟩
              case measure => simp [intOf]; omega
            · have HMX := Lib.hid hmx
              go_wp2_with (go_at_call 16; refine (is_any _ _ _).mono ?_; rintro e w' ⟨rfl, q, os, rfl⟩; rw [HC.out])
              go_roundw
              case rel => exact ⟨k + 1, hlt, by go_num, by rw [HTK.out, HM.out, if_neg (by have := HMX.out; omega)], blGrown HB.out _ _, HST.out HKK.out⟩
              case measure => simp [intOf]; omega
          · by_cases hmx : m < 0
            · have HMX := Lib.hid hmx
              go_wp2_with (go_at_call 16; refine (is_any _ _ _).mono ?_; rintro e w' ⟨rfl, q, os, rfl⟩; rw [HC.out])
              go_roundw
              case rel => exact ⟨k + 1, hlt, by go_num, by rw [HTK.out, HM.out, if_pos (by have := HMX.out; omega)], blGrown HB.out _ _, HST.out HKK.out⟩
              case measure => simp [intOf]; omega
            · have HMX := Lib.hid hmx
              go_wp2_with (go_at_call 16; refine (is_any _ _ _).mono ?_; rintro e w' ⟨rfl, q, os, rfl⟩; rw [HC.out])
              go_roundw
              case rel => exact ⟨k + 1, hlt, by go_num, by rw [HTK.out, HM.out, if_neg (by have := HMX.out; omega)], blGrown HB.out _ _, HST.out HKK.out⟩
              case measure => simp [intOf]; omega
    · have hall : l.all okS = true := all_ok fun j x y h => HO.out j x y (by have := (List.getElem?_eq_some_iff.1 h).1; omega) h
      obtain ⟨e1, e2⟩ := tmax_eq l hall
      have em : tmax l = m := by
        have := HM.out
        rwa [List.take_of_length_le (by omega)] at this
      rw [em] at e1 e2
      have h0 : 0 ≤ m := by rw [← em]; exact (tmax_spec l).2.1
      have hv : (vt, vn, ve) = nextS n m := by rw [HV.out, if_pos hall, e1]
      clear hall em e1 HV HM HO
      by_cases hc : m = 1099511627776
      · subst hc
        have : nextS n 1099511627776 = (0, 0, 11) := by simp [nextS]
        rw [this] at hv
        simp only [Prod.mk.injEq] at hv
        obtain ⟨rfl, rfl, rfl⟩ := hv
        clear this
        go_wp2
        exact bodyPost_ret (v := .tuple #[.agg #[.int .i64 0, .int .i64 0], .int .i64 11]) (by simp [results, Try.results21, go_sem, *]) rfl ⟨rfl, by repeat (first | with_reducible exact HBW.out | with_reducible refine blAlloc ?_ _ | with_reducible refine blGrown ?_ _ _ | (with_reducible refine blSet ?_ ?_ _; rotate_left; exact Nat.le_refl _))⟩
      · have : nextS n m = (m + 1, n, 0) := by simp [nextS]; omega
        rw [this] at hv
        simp only [Prod.mk.injEq] at hv
        obtain ⟨rfl, rfl, rfl⟩ := hv
        have hcb : (m == 1099511627776) = false := by simpa using hc
        clear this hc
        go_wp2
        exact bodyPost_ret (v := .tuple #[.agg #[.int .i64 (m + 1), .int .i64 vn], .int .i64 0]) (by simp [results, Try.results21, go_sem, *]) rfl ⟨rfl, by repeat (first | with_reducible exact HBW.out | with_reducible refine blAlloc ?_ _ | with_reducible refine blGrown ?_ _ _ | (with_reducible refine blSet ?_ ?_ _; rotate_left; exact Nat.le_refl _))⟩

end Go.Proofs.Ytnicdbkjgicliaa
