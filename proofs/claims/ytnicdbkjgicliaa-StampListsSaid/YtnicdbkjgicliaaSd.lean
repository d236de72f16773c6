/- Contracts of stamp.Max and stamp.After, and of live, the closed check that every statement of this stage ends with. Conditions: lists of at most a million stamps. -/
import Derived.Test.YtnicdbkjgicliaaSc
namespace Go.Proofs.Ytnicdbkjgicliaa
open Go.RowKit Go.Sort

set_option maxHeartbeats 400000 in
theorem max_any (a : Option Addr) (cap : Nat) (l : List (Int × Int)) (w : World) (hlen : l.length ≤ 1000000) (hl : SL w a l) :
    Calls Try.prog 22 #[.slice a l.length cap] w fun e w' => e = .returned (.agg #[.int .i64 (maxL l).1, .int .i64 (maxL l).2]) ∧ Below w.heap.size w w' := by
  by_cases hne : l = []
  · subst hne
    show Calls Try.prog 22 #[.slice a 0 cap] w fun e w' => e = .returned (.agg #[.int .i64 0, .int .i64 0]) ∧ Below w.heap.size w w'
    go_enter Try.func22, Try.ntmps22
    go_wp2
    exact bodyPost_ret (v := .agg #[.int .i64 0, .int .i64 0]) (by simp [results, Try.results22, go_sem]) rfl ⟨rfl, (Below.refl _ _).alloc (Nat.le_refl _) _⟩
  · have hpos : 0 < l.length := List.length_pos_iff.2 hne
    have hC := fun W (hb : Below w.heap.size w W) => maxfunc_any a cap l W hlen hne (hl.later hb)
    have HC := Lib.hid hC
    clear hC hl
    obtain ⟨mx, my, hm⟩ : ∃ mx my, maxL l = (mx, my) := ⟨_, _, rfl⟩
    rw [hm] at HC ⊢
    clear hm hne
    go_enter Try.func22, Try.ntmps22
    go_wp2_with fail
    have hB0 : Below w.heap.size w (w.alloc (Obj.cells #[Value.int IntKind.i64 0, Value.int IntKind.i64 0] 23)) := (Below.refl _ _).alloc (Nat.le_refl _) _
    have hR0 := own2_new w 0 0
    generalize w.alloc (Obj.cells #[Value.int IntKind.i64 0, Value.int IntKind.i64 0] 23) = W at *
    refine (HC.out W hB0).mono ?_
    rintro e w' ⟨rfl, hb⟩
    have hR1 := hR0.later hb hR0.lt
    have r0 := hR1.c0
    have r1 := hR1.c1
    have rf0 := hR1.f0
    have rf1 := hR1.f1
    have e0 := (hR1.set mx my).c0
    have e1 := (hR1.set mx my).c1
    have HF := Lib.hid ((hB0.trans (hb.mono hB0.size)).setCell (p := ⟨w.heap.size, 0, none⟩) (Nat.le_refl _) (.int .i64 mx) |>.setCell (p := ⟨w.heap.size, 1, none⟩) (Nat.le_refl _) (.int .i64 my))
    clear hR0 hR1 hB0 hb
    go_wp2
    exact bodyPost_ret (v := .agg #[.int .i64 mx, .int .i64 my]) (by simp [results, Try.results22, go_sem, e0, e1]) rfl ⟨rfl, HF.out⟩

def okS (s : Int × Int) : Bool := decide (s = (0, 0)) || isS s
def afterS (n : Int) (l : List (Int × Int)) : Int × Int × Int := if nodeS n then (if l.all okS then nextS n (maxL l).1 else (0, 0, 10)) else (0, 0, 2)
theorem all_ok {l : List (Int × Int)} (h : ∀ (j : Nat) (x y : Int), l[j]? = some (x, y) → okS (x, y) = true) : l.all okS = true := by
  rw [List.all_eq_true]
  rintro ⟨x, y⟩ hm
  obtain ⟨i, hi⟩ := List.mem_iff_getElem?.1 hm
  exact h i x y hi
theorem not_all_ok {l : List (Int × Int)} {k : Nat} {x y : Int} (h : l[k]? = some (x, y)) (hb : okS (x, y) = false) : l.all okS = false := by
  rw [List.all_eq_false]
  exact ⟨(x, y), List.mem_of_getElem? h, by simp [hb]⟩
theorem max_nonneg {l : List (Int × Int)} (h : l.all okS = true) : 0 ≤ (maxL l).1 := by
  by_cases hne : l = []
  · subst hne; simp [maxL]
  · have := List.all_eq_true.1 h _ (maxL_mem l hne)
    simp only [okS, isS, Bool.or_eq_true, decide_eq_true_eq] at this
    rcases this with h | h
    · rw [h]; simp
    · omega

theorem field_time (x y : Int) (w : World) : (Instr.field 23 (.agg #[.int .i64 x, .int .i64 y]) 0).run Try.prog w = .ok (.int .i64 x) w := by kernel_rfl

set_option maxHeartbeats 1000000 in
theorem after_any (n : Int) (a : Option Addr) (cap : Nat) (l : List (Int × Int)) (w : World) (hlen : l.length ≤ 1000000) (hl : SL w a l) :
    Calls Try.prog 19 #[.int .i64 n, .slice a l.length cap] w fun e w' => e = .returned (.tuple #[.agg #[.int .i64 (afterS n l).1, .int .i64 (afterS n l).2.1], .int .i64 (afterS n l).2.2]) ∧ Below w.heap.size w w' := by
  have HL := Lib.hid hl
  clear hl
  cases hn : nodeS n
  · have hv : afterS n l = (0, 0, 2) := by simp [afterS, hn]
    rw [hv]
    have HN := Lib.hid hn
    clear hn hv
    go_enter Try.func19, Try.ntmps19
    go_wp2_with (go_at_call 41; refine (isNode_any _ _).mono ?_; rintro e w' ⟨rfl, rfl⟩; rw [HN.out])
    exact bodyPost_ret (v := .tuple #[.agg #[.int .i64 0, .int .i64 0], .int .i64 2]) (by simp [results, Try.results19, go_sem]) rfl ⟨rfl, (Below.refl _ _).alloc (Nat.le_refl _) _⟩
  · have hv : afterS n l = if l.all okS then nextS n (maxL l).1 else (0, 0, 10) := by simp [afterS, hn]
    obtain ⟨vt, vn, ve, hvv⟩ : ∃ vt vn ve, afterS n l = (vt, vn, ve) := ⟨_, _, _, rfl⟩
    rw [hvv]
    have HV := Lib.hid (hvv.symm.trans hv)
    have HN := Lib.hid hn
    clear hn hv hvv
    go_enter Try.func19, Try.ntmps19
    go_wp2_with (go_at_call 41; refine (isNode_any _ _).mono ?_; rintro e w' ⟨rfl, rfl⟩; rw [HN.out])
    have hB0 : Below w.heap.size w (w.alloc (Obj.cells #[Value.int IntKind.i64 0, Value.int IntKind.i64 0] 23)) := (Below.refl _ _).alloc (Nat.le_refl _) _
    have hR0 := own2_new w 0 0
    generalize w.alloc (Obj.cells #[Value.int IntKind.i64 0, Value.int IntKind.i64 0] 23) = W at *
    have HB0 := Lib.hid hB0
    have HR0 := Lib.hid hR0
    have hS := hR0.lt
    clear hB0 hR0
    go_loopw [14, 7] (fun i _ wr => ∃ k : Nat, k ≤ l.length ∧ i = .int .i64 k ∧ Below W.heap.size W wr ∧ ∀ (j : Nat) (x y : Int), j < k → l[j]? = some (x, y) → okS (x, y) = true) (fun i _ _ => l.length - (intOf i).toNat)
    case atStart => exact ⟨0, Nat.zero_le _, rfl, Below.refl _ _, fun j x y h => absurd h (Nat.not_lt_zero _)⟩
    case round =>
      obtain ⟨k, hk, rfl, hbel, hok⟩ := hrel
      have HB := Lib.hid hbel
      have HO := Lib.hid hok
      have hR1 := HR0.out.later hbel hS
      have r0 := hR1.c0
      have r1 := hR1.c1
      have rf0 := hR1.f0
      have rf1 := hR1.f1
      have hsz : w.heap.size < wr.heap.size := hR1.lt
      have hszm : ∀ m, w.heap.size < wr.heap.size + m := fun m => by omega
      have HR := Lib.hid hR1
      have HBW := Lib.hid (HB0.out.trans (hbel.mono (Nat.le_of_lt hS)))
      clear hbel hok hR1
      by_cases hlt : k < l.length
      · obtain ⟨x, y, hxy⟩ := at_lt hlt
        obtain ⟨b, o, rfl, hb, hl⟩ := HL.out (ne_of_lt hlt)
        obtain ⟨hx, hy⟩ := hl.later hb HBW.out k x y hxy
        have HXY := Lib.hid hxy
        clear hxy hl
        have hstep : okS (x, y) = true → ∀ (j : Nat) (x' y' : Int), j < k + 1 → l[j]? = some (x', y') → okS (x', y') = true := by
          intro h j x' y' hj he
          rcases Nat.lt_or_ge j k with h' | h'
          · exact HO.out j x' y' h' he
          · obtain rfl : j = k := by omega
            have := HXY.out.symm.trans he
            simp only [Option.some.injEq, Prod.mk.injEq] at this
            obtain ⟨rfl, rfl⟩ := this
            exact h
        have HST := Lib.hid hstep
        clear hstep
        by_cases hz : x = 0 ∧ y = 0
        · obtain ⟨rfl, rfl⟩ := hz
          go_wp2_with fail
          go_roundw
          case rel => exact ⟨k + 1, hlt, by go_num, HB.out.alloc HB.out.size _, HST.out (by simp [okS])⟩
          case measure => simp [intOf]; omega
        · have hnz : decide ((x, y) = ((0, 0) : Int × Int)) = false := by simpa using hz
          cases hs : isS (x, y)
          · have hck : checkS (x, y) = 10 := by simp [checkS, hs]
            have hv : (vt, vn, ve) = (0, 0, 10) := by
              rw [HV.out, not_all_ok HXY.out (by simp only [okS, hnz, hs, Bool.or_self])]
              rfl
            simp only [Prod.mk.injEq] at hv
            obtain ⟨rfl, rfl, rfl⟩ := hv
            have HC := Lib.hid hck
            clear hck hs hnz HST HV HO
            by_cases hx0 : x = 0
            · have hy0 : ¬ y = 0 := fun h => hz ⟨hx0, h⟩
              subst hx0
              clear hz
              go_wp2_with (go_at_call 15; refine (check_any _ _ _).mono ?_; rintro e w' ⟨rfl, q, os, rfl⟩; rw [HC.out])
              exact bodyPost_ret (v := .tuple #[.agg #[.int .i64 0, .int .i64 0], .int .i64 10]) (by simp [results, Try.results19, go_sem, *]) rfl ⟨rfl, by repeat (first | with_reducible exact HBW.out | with_reducible refine blAlloc ?_ _ | with_reducible refine blGrown ?_ _ _ | (with_reducible refine blSet ?_ ?_ _; rotate_left; exact Nat.le_refl _))⟩
            · clear hz
              go_wp2_with (go_at_call 15; refine (check_any _ _ _).mono ?_; rintro e w' ⟨rfl, q, os, rfl⟩; rw [HC.out])
              exact bodyPost_ret (v := .tuple #[.agg #[.int .i64 0, .int .i64 0], .int .i64 10]) (by simp [results, Try.results19, go_sem, *]) rfl ⟨rfl, by repeat (first | with_reducible exact HBW.out | with_reducible refine blAlloc ?_ _ | with_reducible refine blGrown ?_ _ _ | (with_reducible refine blSet ?_ ?_ _; rotate_left; exact Nat.le_refl _))⟩
          · have hck : checkS (x, y) = 0 := by simp [checkS, hs]
            have hok : okS (x, y) = true := by simp [okS, hs]
            have HC := Lib.hid hck
            have HK := Lib.hid hok
            clear hck hs hnz hok
            by_cases hx0 : x = 0
            · have hy0 : ¬ y = 0 := fun h => hz ⟨hx0, h⟩
              subst hx0
              clear hz
              go_wp2_with (go_at_call 15; refine (check_any _ _ _).mono ?_; rintro e w' ⟨rfl, q, os, rfl⟩; rw [HC.out])
              go_roundw
              case rel => exact ⟨k + 1, hlt, by go_num, (HB.out.alloc HB.out.size _).trans ((grow_below _ _ _).mono (by have := HB.out.size; simp; omega)), HST.out HK.out⟩
              case measure => simp [intOf]; omega
            · clear hz
              go_wp2_with (go_at_call 15; refine (check_any _ _ _).mono ?_; rintro e w' ⟨rfl, q, os, rfl⟩; rw [HC.out])
              go_roundw
              case rel => exact ⟨k + 1, hlt, by go_num, (HB.out.alloc HB.out.size _).trans ((grow_below _ _ _).mono (by have := HB.out.size; simp; omega)), HST.out HK.out⟩
              case measure => simp [intOf]; omega
      · have hall : l.all okS = true := all_ok fun j x y h => HO.out j x y (by have := (List.getElem?_eq_some_iff.1 h).1; omega) h
        have h0 := max_nonneg hall
        have hv : (vt, vn, ve) = nextS n (maxL l).1 := by rw [HV.out, if_pos hall]
        obtain ⟨mx, my, hm⟩ : ∃ mx my, maxL l = (mx, my) := ⟨_, _, rfl⟩
        have hM := max_any a cap l wr hlen (HL.out.later HBW.out)
        rw [hm] at hM hv h0
        have hv2 : nextS n mx = (vt, vn, ve) := hv.symm
        have h02 : 0 ≤ mx := h0
        have hM2 : Calls Try.prog 22 #[.slice a l.length cap] wr fun e w' => e = .returned (.agg #[.int .i64 mx, .int .i64 my]) ∧ Below wr.heap.size wr w' := hM
        have HM := Lib.hid hM2
        have HV2 := Lib.hid hv2
        clear hall hv hv2 HV hM hM2 hm HO h0
        clear r0 r1 rf0 rf1 hszm
        have hfd := field_time mx my
        go_wp2_with (first | (go_at_call 22; refine HM.out.mono ?_; rintro e w' ⟨rfl, hb⟩; have HBX := Lib.hid (blThen HBW.out hb); have hR2 := HR.out.later hb hsz; have g0 := hR2.c0; have g1 := hR2.c1; have gf0 := hR2.f0; have gf1 := hR2.f1; have gsz := hR2.lt; clear hb hR2) | (go_at_call 45; refine (next_any _ _ h02 _).mono ?_; rintro e w2 ⟨rfl, q, os, rfl⟩; rw [HV2.out]))
        exact bodyPost_ret (v := .tuple #[.agg #[.int .i64 vt, .int .i64 vn], .int .i64 ve]) (by simp [results, Try.results19, go_sem, *]) rfl ⟨rfl, by repeat (first | with_reducible exact HBX.out | with_reducible refine blAlloc ?_ _ | with_reducible refine blGrown ?_ _ _ | (with_reducible refine blSet ?_ ?_ _; rotate_left; exact Nat.le_refl _))⟩

end Go.Proofs.Ytnicdbkjgicliaa
