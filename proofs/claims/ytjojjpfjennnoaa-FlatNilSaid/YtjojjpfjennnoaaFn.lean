/- FlatNil: a nil Pen lays nothing, a nil Eye sees nothing: whatever the number and the text, the law returns true and leaves its arguments as they were. Conditions: none. -/
import Derived.Test.YtjojjpfjennnoaaFo
namespace Go.Proofs.Ytjojjpfjennnoaa
open Go.ChangeShapes Go.WideShapes Go.ChangeAt Go.RowKit Go.Joins Go.Deep

theorem stamp_new (w : World) (x y : Int) (b : Nat) (hb : b = w.heap.size) (W : World) (hW : W.heap = (w.alloc (.cells #[.int .i64 x, .int .i64 y] 49)).heap) : SL W b (some ⟨b, 0, none⟩) [(x, y)] := by
  subst hb
  have h : W.heap[w.heap.size]? = some (.cells #[.int .i64 x, .int .i64 y] 49 (0, 0)) := by rw [hW]; exact heap_alloc_new w _
  intro _
  refine ⟨0, rfl, fun j p q hz => ?_⟩
  match j, hz with
  | 0, hz =>
    simp only [List.getElem?_cons_zero, Option.some.injEq, Prod.mk.injEq] at hz
    obtain ⟨rfl, rfl⟩ := hz
    exact ⟨by rw [cell_of_row W _ _ _ _ _ h]; rfl, by rw [cell_of_row W _ _ _ _ _ h]; rfl⟩
theorem bNone {w x y : World} (h : Below w.heap.size w x) (k : Keeps (fun _ => False) x y) : Below w.heap.size w y := h.trans (noneB k h.size)
theorem bThen {w x y : World} (h : Below w.heap.size w x) (k : Below x.heap.size x y) : Below w.heap.size w y := h.trans (k.mono h.size)
theorem bAlloc {w x : World} (h : Below w.heap.size w x) (o : Obj) : Below w.heap.size w (x.alloc o) := h.alloc h.size o

set_option maxRecDepth 100000 in
set_option maxHeartbeats 4000000 in
theorem flatNil_walk (n : Int) (s : ByteArray) (w : World) (hs : s.size ≤ maxLen) :
    Calls Try.prog 7 #[.int .i64 n, .string s] w fun e w' => e = .returned (.bool true) ∧ Below w.heap.size w w' := by
  unfold maxLen at hs
  by_cases hbig : 20000 < s.size
  · go_enter Try.func7, Try.ntmps7
    go_wp2_with (go_at_call 13; refine (live_any _).mono ?_; rintro e w1 ⟨rfl, hb1⟩; have HB1 := Lib.hid hb1; clear hb1)
    go_ret
    exact ⟨rfl, HB1.out⟩
  · have hs2 : s.size ≤ 20000 := by omega
    go_enter Try.func7, Try.ntmps7
    go_wp2_with fail
    refine (int_nil _ w.heap.size _ 1 [n] (one_new w n _ rfl _ rfl) (by simp)).mono ?_
    rintro e w1 ⟨rfl, hb1⟩
    have HB1 : Hid (Below w.heap.size w w1) := bThen (bAlloc (Below.refl _ _) _) hb1
    clear hb1
    go_wp2_with fail
    refine (text_nil _ w1.heap.size _ 1 [s] (text_new w1 s _ rfl _ rfl) (fun j x hx => ?_) (by simp)).mono ?_
    · match j, hx with
      | 0, hx => simp at hx; subst hx; omega
    rintro e w2 ⟨rfl, hb2⟩
    have HB2 : Hid (Below w.heap.size w w2) := bThen (bAlloc HB1.out _) hb2
    clear hb2
    go_wp2_with fail
    refine (bool_nil _ true).mono ?_
    rintro e w' ⟨rfl, rfl⟩
    go_wp2_with fail
    refine (stamp_nil _ w2.heap.size _ 1 [(0, 0)] (stamp_new w2 0 0 _ rfl _ rfl) (fun _ => by simp) (by simp)).mono ?_
    rintro e w3 ⟨rfl, hb3⟩
    have HB3 : Hid (Below w.heap.size w w3) := bThen (bAlloc HB2.out _) hb3
    clear hb3
    go_wp2_with fail
    refine (stamps_nil _).mono ?_
    rintro e w4 ⟨rfl, hb4⟩
    have HB4 : Hid (Below w.heap.size w w4) := bThen HB3.out hb4
    clear hb4
    have heq : ∀ w : World, (binOp .eql 49 (.agg #[.int .i64 0, .int .i64 0]) (.agg #[.int .i64 0, .int .i64 0])).run Try.prog w = .ok (.bool true) w := fun _ => by kernel_rfl
    go_wp2_with (first
      | (go_at_call 19; refine (bytes_nil _).mono ?_; rintro e w' ⟨rfl, rfl⟩)
      | (go_at_call 24; refine (eyeInt_nil _).mono ?_; rintro e w5 ⟨rfl, hk⟩; have HB5 := Lib.hid (bNone HB4.out hk); clear hk)
      | (go_at_call 26; refine (eyeText_nil _).mono ?_; rintro e w6 ⟨rfl, hk⟩; have HB6 := Lib.hid (bNone HB5.out hk); clear hk)
      | (go_at_call 28; refine (eyeBool_nil _).mono ?_; rintro e w7 ⟨rfl, hk⟩; have HB7 := Lib.hid (bNone HB6.out hk); clear hk)
      | (go_at_call 30; refine (eyeStamp_nil _).mono ?_; rintro e w8 ⟨rfl, hk⟩; have HB8 := Lib.hid (bNone HB7.out hk); clear hk)
      | (go_at_call 33; refine (eyeStamps_nil _).mono ?_; rintro e w9 ⟨rfl, hk⟩; have HB9 := Lib.hid (bNone HB8.out hk); clear hk)
      | (go_at_call 35; refine (left_nil _).mono ?_; rintro e w' ⟨rfl, rfl⟩)
      | (go_at_call 37; refine (done_nil _).mono ?_; rintro e w' ⟨rfl, rfl⟩)
      | (go_at_call 36; refine (num_any _ _).mono ?_; rintro e w' ⟨rfl, rfl⟩)
      | (go_at_call 13; refine (live_any _).mono ?_; rintro e w10 ⟨rfl, hb⟩; have HB10 := Lib.hid (bThen HB9.out hb); clear hb))
    go_ret
    exact ⟨rfl, HB10.out⟩

set_option maxRecDepth 100000 in
theorem flatNil_lifted (os : Os) (started : os.Started) (H : Type) (enc : TypeId × Value → H) :
    ReturnsInHanded {} Try.checked os 7 .any (Rows.flatNilSpec.pre6 enc Try.prog Try.f7 Rows.flatNilRow.domain false) (Rows.flatNilSpec.post enc Try.prog Try.f7 false true false false) := by
  refine law_lift (C := Try.checked) own0 started (by kernel_rfl) Try.func7 laid0 rfl (by kernel_rfl) (fun _ _ _ _ => trodAll_mk1 (shut_bool Try.underlying4 true)) (fun ds h => match ds, h with | [_, _], _ => ⟨rfl, rfl, rfl⟩)
    (ChangeSpec.witness6 (enc := enc) (C := Try.checked) false ⟨#[], #[.int .i64 0, .string ⟨#[]⟩], []⟩ 8 (by kernel_rfl) (by kernel_rfl) (by kernel_rfl) (by kernel_rfl)) ?_
  intro W base args ds before hval0 hA0 hlt
  have hval : ∀ (j : Nat) t v, Try.f7.params[j]? = some t → args[j]? = some v → Value.okWide Try.prog W .any base t v := hval0
  have hA : DataW.TrodAll enc Try.prog W 0 (fun _ => true) true Try.f7.params.toList args.toList ds before := hA0
  rw [Try.params7] at hA hval
  obtain ⟨v0, v1, d0, d1, p0, p1, rfl, rfl, rfl, h0, h1⟩ := trodAll_two hA
  obtain ⟨n, rfl, rfl, rfl, wn⟩ := open_int Try.underlying2 (hval 0 2 v0 rfl rfl) h0
  obtain ⟨s, rfl, rfl, rfl, hs1⟩ := Go.ChangeMaps.open_string Try.underlying9 (hval 1 9 v1 rfl rfl) h1
  exact flatNil_walk n s W hs1

theorem flatNil_holds : Rows.FlatNilSaid :=
  OpenClaim.holds_of_wide 7 Try.f7 rfl rfl rfl rfl rfl rfl rfl ⟨rfl, rfl, rfl, rfl, rfl⟩ rfl rfl rfl rfl rfl (by kernel_rfl) Try.func7 (by kernel_rfl)
    (of_decide_eq_true (by kernel_rfl)) (by unfold Func.isWrapper; rw [if_neg (of_decide_eq_false (by kernel_rfl))]; exact ⟨rfl, rfl⟩)
    (fun os started H enc _ => flatNil_lifted os started H enc)

#print axioms flatNil_holds

end Go.Proofs.Ytjojjpfjennnoaa
