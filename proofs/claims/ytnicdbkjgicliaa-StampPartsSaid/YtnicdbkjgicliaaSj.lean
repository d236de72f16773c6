/- StampParts: those of a sorted list that are below a stamp, and those that are not, are all. Conditions: none. -/
import Derived.Test.YtnicdbkjgicliaaSi
namespace Go.Proofs.Ytnicdbkjgicliaa
open Go.ChangeShapes Go.WideShapes Go.ChangeAt Go.RowKit Go.Joins Go.Deep
open Go.Sort (grow)

theorem prefix_below (s : Int × Int) : ∀ {l : List (Int × Int)}, SS l → ∀ (k : Nat) (x : Int × Int), l[k]? = some x → (k < (l.filter fun y => ltS y s).length ↔ ltS x s = true)
  | [], _, k, x, h => by simp at h
  | y :: r, hs, k, x, h => by
    obtain ⟨h1, h2⟩ := List.pairwise_cons.1 hs
    by_cases hy : ltS y s = true
    · rw [List.filter_cons_of_pos (p := fun y => ltS y s) hy]
      cases k with
      | zero =>
        simp only [List.getElem?_cons_zero, Option.some.injEq] at h
        subst h
        simp [hy]
      | succ k =>
        have := prefix_below s h2 k x (by simpa using h)
        rw [← this]
        simp
    · have hno : ∀ z ∈ y :: r, ltS z s = false := by
        intro z hz
        rcases List.mem_cons.1 hz with rfl | hz
        · simpa using hy
        · cases hc : ltS z s
          · rfl
          · exact absurd (ltS_trans (h1 z hz) hc) hy
      have he : (y :: r).filter (fun y => ltS y s) = [] := List.filter_eq_nil_iff.2 fun z hz => by rw [hno z hz]; simp
      rw [he, hno x (List.mem_of_getElem? h)]
      simp

set_option maxRecDepth 100000 in
set_option maxHeartbeats 2000000 in
theorem stampParts_walk (a : Option Addr) (cap : Nat) (l : List (Int × Int)) (t n : Int) (w : World) (hl : SL w a l) (hm : l.length ≤ 9223372036854775807) (hn : a = none → cap = 0) :
    Calls Try.prog 11 #[.slice a l.length cap, .agg #[.int .i64 t, .int .i64 n]] w fun e w' => e = .returned (.bool true) ∧ Below w.heap.size w w' := by
  have HL := Lib.hid hl
  have HN := Lib.hid hn
  clear hl hn
  by_cases hlen : 60 < l.length
  · have hlenI : (60 : Int) < (l.length : Int) := by omega
    clear hlen
    go_enter Try.func11, Try.ntmps11
    go_wp2_with (go_at_call 18; refine (live_any _).mono ?_; rintro e w9 ⟨rfl, hb⟩; have HB9 := Lib.hid hb; clear hb)
    go_ret
    exact ⟨rfl, blThen (blAlloc (Below.refl _ _) _) HB9.out⟩
  · have hle : l.length ≤ 1000000 := by omega
    have HLE := Lib.hid hle
    go_enter Try.func11, Try.ntmps11
    go_wp2_with fail
    have hB0 : Hid (Below w.heap.size w (w.alloc (Obj.cells #[Value.int IntKind.i64 t, Value.int IntKind.i64 n] 23))) := blAlloc (Below.refl _ _) _
    have hS0 : Own2 (w.alloc (Obj.cells #[Value.int IntKind.i64 t, Value.int IntKind.i64 n] 23)) w.heap.size t n := own2_new _ _ _
    generalize w.alloc (Obj.cells #[Value.int IntKind.i64 t, Value.int IntKind.i64 n] 23) = W at *
    refine (sort_any a cap l _ HLE.out (HL.out.later hB0.out) HN.out).mono ?_
    obtain ⟨q, hq⟩ : ∃ q, sortL l = q := ⟨_, rfl⟩
    have HQS : Hid (SS q) := by rw [← hq]; exact sortL_ss l
    have HQL : Hid (q.length ≤ 1000000) := by rw [← hq]; exact Nat.le_trans (sortL_length l) HLE.out
    rw [hq]
    clear hq
    rintro e w1 ⟨a1, c1, rfl, hsl1, _, _, _, _, hb1⟩
    have HB1 : Hid (Below w.heap.size w w1) := blThen hB0.out hb1
    have hS1 : Own2 w1 w.heap.size t n := hS0.later hb1 hS0.lt
    have HSL1 := Lib.hid hsl1
    have q0 := hS1.c0
    have q1 := hS1.c1
    have q2 := hS1.lt
    have HS1 := Lib.hid hS1
    clear hS0 hS1 hb1 hsl1
    go_wp2_with fail
    clear q0 q1 q2
    refine (below_any a1 c1 q t n _ HQL.out HSL1.out).mono ?_
    obtain ⟨r, hr⟩ : ∃ r, (q.filter fun x => ltS x (t, n)) = r := ⟨_, rfl⟩
    have HR := Lib.hid hr
    rw [hr]
    clear hr
    rintro e w2 ⟨a2, c2, rfl, hsl2, _, _, _, _, hb2⟩
    have HB2 : Hid (Below w.heap.size w w2) := blThen HB1.out hb2
    have HS2 : Hid (Own2 w2 w.heap.size t n) := HS1.out.later hb2 HS1.out.lt
    have HSL2 := Lib.hid hsl2
    have HSQ := Lib.hid (HSL1.out.later hb2)
    clear hb2 hsl2
    go_wp2_with fail
    go_loopw [7] (fun i wr => ∃ k : Nat, k ≤ q.length ∧ i = .int .i64 k ∧ Below w2.heap.size w2 wr) (fun i _ => q.length - (intOf i).toNat)
    case atStart => exact ⟨0, Nat.zero_le _, rfl, Below.refl _ _⟩
    case round =>
      obtain ⟨k, hk, rfl, hbel⟩ := hrel
      have HB := Lib.hid hbel
      have HBW : Hid (Below w.heap.size w wr) := blThen HB2.out hbel
      have HSW : Hid (Own2 wr w.heap.size t n) := HS2.out.later hbel HS2.out.lt
      have HQW := Lib.hid (HSQ.out.later hbel)
      have HRW := Lib.hid (HSL2.out.later hbel)
      have m0 := HSW.out.c0
      have m1 := HSW.out.c1
      have hMw : w.heap.size < wr.heap.size := HSW.out.lt
      have HQLen := HQL.out
      have HRLen : r.length ≤ 1000000 := by rw [← HR.out]; exact Nat.le_trans (List.length_filter_le _ _) HQL.out
      clear hbel
      by_cases hlt : k < q.length
      · obtain ⟨x, y, hxy⟩ := at_lt hlt
        obtain ⟨b, o, rfl, hb, hl⟩ := HQW.out (ne_of_lt hlt)
        obtain ⟨hx, hy⟩ := hl k x y hxy
        have hpre := prefix_below (t, n) HQS.out k (x, y) hxy
        rw [HR.out] at hpre
        have hmem : (x, y) ∈ r ↔ ltS (x, y) (t, n) = true := by
          rw [← HR.out, List.mem_filter]
          exact ⟨fun h => h.2, fun h => ⟨List.mem_of_getElem? hxy, h⟩⟩
        clear hxy hl
        cases hc : ltS (x, y) (t, n)
        · have hneg : ¬ cmpS x y t n < 0 := by rw [cmpS_neg, hc]; simp
          have hnegb : decide (cmpS x y t n < 0) = false := by simpa using hneg
          have HIN : Hid (decide ((x, y) ∈ r) = false) := by rw [hc] at hmem; show decide ((x, y) ∈ r) = false; simpa using hmem
          have hkr : ¬ (k : Int) < (r.length : Int) := by rw [hc] at hpre; simp at hpre; omega
          have hkrb : decide ((k : Int) < (r.length : Int)) = false := by simpa using hkr
          clear hpre hmem hc
          go_wp2_with fail
          refine region_aft (by kernel_rfl) (by kernel_rfl) ?_
          repeat (go_big_quiet_step (first | (go_at_call 17; exact aft_of (compare_any _ _ _ _ _)) | (go_at_call 28; exact aft_of ((has_any a2 c2 r _ _ _ HRLen (HRW.out.later (by with_reducible exact Aft.h _))).mono fun e w' h => by rw [HIN.out] at h; exact h))))
          refine wpQuiet_nil ?_
          rintro w3 ⟨z, rfl⟩
          go_wp2
          go_roundw
          case rel => exact ⟨k + 1, hlt, by go_num, HB.out.trans (z.h.mono HB.out.size)⟩
          case measure => simp [intOf]; omega
        · have hneg : cmpS x y t n < 0 := (cmpS_neg _ _ _ _).2 hc
          have hnegb : decide (cmpS x y t n < 0) = true := by simpa using hneg
          have HIN : Hid (decide ((x, y) ∈ r) = true) := by rw [hc] at hmem; show decide ((x, y) ∈ r) = true; simpa using hmem
          have hkr : (k : Int) < (r.length : Int) := by rw [hc] at hpre; simp at hpre; omega
          have hkrb : decide ((k : Int) < (r.length : Int)) = true := by simpa using hkr
          clear hpre hmem hc
          go_wp2_with fail
          refine region_aft (by kernel_rfl) (by kernel_rfl) ?_
          repeat (go_big_quiet_step (first | (go_at_call 17; exact aft_of (compare_any _ _ _ _ _)) | (go_at_call 28; exact aft_of ((has_any a2 c2 r _ _ _ HRLen (HRW.out.later (by with_reducible exact Aft.h _))).mono fun e w' h => by rw [HIN.out] at h; exact h))))
          refine wpQuiet_nil ?_
          rintro w3 ⟨z, rfl⟩
          go_wp2
          go_roundw
          case rel => exact ⟨k + 1, hlt, by go_num, HB.out.trans (z.h.mono HB.out.size)⟩
          case measure => simp [intOf]; omega
      · have hrq : (r.length : Int) ≤ (q.length : Int) := by rw [← HR.out]; exact_mod_cast List.length_filter_le _ _
        go_wp2_with fail
        refine (below_any a2 c2 r t n _ HRLen HRW.out).mono ?_
        have hrr : (r.filter fun x => ltS x (t, n)) = r := List.filter_eq_self.2 fun x hx => by rw [← HR.out] at hx; exact (List.mem_filter.1 hx).2
        rw [hrr]
        rintro e w3 ⟨a3, c3, rfl, hsl3, _, _, _, _, hb3⟩
        have HB3 : Hid (Below w.heap.size w w3) := blThen HBW.out hb3
        have HR3 := Lib.hid (HRW.out.later hb3)
        have HSL3 := Lib.hid hsl3
        clear hb3 hsl3 hrr
        go_wp2_with fail
        refine (same_yes a3 a2 c3 c2 r _ HRLen HSL3.out HR3.out).mono ?_
        rintro e w4 ⟨rfl, hb4⟩
        have HB4 : Hid (Below w.heap.size w w4) := blThen HB3.out hb4
        clear hb4
        go_wp2_with (go_at_call 18; refine (live_any _).mono ?_; rintro e w9 ⟨rfl, hb⟩; have HB9 := Lib.hid hb; clear hb)
        go_ret
        exact ⟨rfl, blThen HB4.out HB9.out⟩

set_option maxRecDepth 100000 in
theorem stampParts_lifted (os : Os) (started : os.Started) (H : Type) (enc : TypeId × Value → H) :
    ReturnsInHanded {} Try.checked os 11 .any (Rows.stampPartsSpec.pre6 enc Try.prog Try.f11 Rows.stampPartsRow.domain false) (Rows.stampPartsSpec.post enc Try.prog Try.f11 false true false false) := by
  refine law_lift (C := Try.checked) own0 started (by kernel_rfl) Try.func11 laid0 rfl (by kernel_rfl) (fun _ _ _ _ => trodAll_mk1 (shut_bool Try.underlying4 true)) (fun ds h => match ds, h with | [_, _], _ => ⟨rfl, rfl, rfl⟩)
    (ChangeSpec.witness6 (enc := enc) (C := Try.checked) false ⟨#[], #[.slice none 0 0, .agg #[.int .i64 0, .int .i64 0]], []⟩ 8 (by kernel_rfl) (by kernel_rfl) (by kernel_rfl) (by kernel_rfl)) ?_
  intro W base args ds before hval0 hA0 hlt
  have hval : ∀ (j : Nat) t v, Try.f11.params[j]? = some t → args[j]? = some v → Value.okWide Try.prog W .any base t v := hval0
  have hA : DataW.TrodAll enc Try.prog W 0 (fun _ => true) true Try.f11.params.toList args.toList ds before := hA0
  rw [Try.params11] at hA hval
  obtain ⟨v0, v1, d0, d1, p0, p1, rfl, rfl, rfl, h0, h1⟩ := trodAll_two hA
  obtain ⟨a, l, cap, rfl, hl0, hm0, hn0, hb0, hw0⟩ := open_stamps (hval 0 31 v0 rfl rfl) h0
  obtain ⟨t, n, rfl, _, _⟩ := open_stamp (hval 1 23 v1 rfl rfl) h1
  exact stampParts_walk a cap l t n W hl0 hm0 hn0

theorem stampParts_holds : Rows.StampPartsSaid :=
  OpenClaim.holds_of_wide 11 Try.f11 rfl rfl rfl rfl rfl rfl rfl ⟨rfl, rfl, rfl, rfl, rfl⟩ rfl rfl rfl rfl rfl (by kernel_rfl) Try.func11 (by kernel_rfl)
    (of_decide_eq_true (by kernel_rfl)) (by unfold Func.isWrapper; rw [if_neg (of_decide_eq_false (by kernel_rfl))]; exact ⟨rfl, rfl⟩)
    (fun os started H enc _ => stampParts_lifted os started H enc)

#print axioms stampParts_holds

end Go.Proofs.Ytnicdbkjgicliaa
