/- StampAfter: the greatest of a list, and the stamp behind it, are as the document says. Conditions: none. -/
import Derived.Test.YtnicdbkjgicliaaSw
namespace Go.Proofs.Ytnicdbkjgicliaa
open Go.ChangeShapes Go.WideShapes Go.ChangeAt Go.RowKit Go.Joins Go.Deep Go.Sort

set_option maxHeartbeats 1000000 in
theorem stampAfter_walk (n : Int) (a : Option Addr) (cap : Nat) (l : List (Int × Int)) (w : World) (hl : SL w a l) (hn : a = none → cap = 0) (hm : l.length ≤ 9223372036854775807) :
    Calls Try.prog 4 #[.int .i64 n, .slice a l.length cap] w fun e w' => e = .returned (.bool true) ∧ Below w.heap.size w w' := by
  have HL := Lib.hid hl
  have HN := Lib.hid hn
  clear hl hn
  by_cases hlen : 60 < l.length
  · have hlenI : (60 : Int) < (l.length : Int) := by omega
    clear hlen
    go_enter Try.func4, Try.ntmps4
    go_wp2_with (go_at_call 18; refine (live_any _).mono ?_; rintro e w3 ⟨rfl, hb⟩; have HB3 := Lib.hid hb; clear hb)
    go_ret
    exact ⟨rfl, HB3.out⟩
  · obtain ⟨vt, vn, ve, hvv⟩ : ∃ vt vn ve, afterS n l = (vt, vn, ve) := ⟨_, _, _, rfl⟩
    obtain ⟨mx, my, hmm⟩ : ∃ mx my, maxL l = (mx, my) := ⟨_, _, rfl⟩
    have HV := Lib.hid hvv
    have HM := Lib.hid hmm
    have hle : l.length ≤ 1000000 := by omega
    clear hvv hmm
    go_enter Try.func4, Try.ntmps4
    go_wp2_with fail
    refine (own_any a cap l _ hle HL.out HN.out).mono ?_
    rintro e w1 ⟨a1, c1, rfl, hsl, hn1, hge, hb⟩
    have HB1 : Hid (Below w.heap.size w w1) := hb
    have HS1 := Lib.hid hsl
    clear hsl hn1 hge hb
    go_wp2_with fail
    refine (after_any n a1 c1 l _ hle HS1.out).mono ?_
    rw [HV.out]
    rintro e w2 ⟨rfl, hb⟩
    have HB2 : Hid (Below w.heap.size w w2) := blThen HB1.out hb
    clear hb
    go_wp2_with fail
    have hA2 : Own2 (w2.alloc (Obj.cells #[Value.int IntKind.i64 vt, Value.int IntKind.i64 vn] 23)) w2.heap.size vt vn := own2_new _ _ _
    refine (refafter_any n a cap l _ hle (HL.out.later (blAlloc HB2.out _))).mono ?_
    rw [HV.out]
    rintro e w3 ⟨rfl, hb⟩
    have HB3 : Hid (Below w.heap.size w w3) := blThen (blAlloc HB2.out _) hb
    have HA3 : Hid (Own2 w3 w2.heap.size vt vn) := hA2.later hb hA2.lt
    have a0 := HA3.out.c0
    have a1' := HA3.out.c1
    have hs3 : w2.heap.size < w3.heap.size := HA3.out.lt
    clear hb hA2
    have HB4 : Hid (Below w.heap.size w (w3.alloc (Obj.cells #[Value.int IntKind.i64 vt, Value.int IntKind.i64 vn] 23))) := blAlloc HB3.out _
    go_wp2_with (go_at_call 14; refine (num_any _ _).mono ?_; rintro e w' ⟨rfl, rfl⟩)
    refine (own_any a cap l _ hle (HL.out.later HB4.out) HN.out).mono ?_
    rintro e w5 ⟨a5, c5, rfl, hsl, hn5, hge, hb⟩
    have HB5 : Hid (Below w.heap.size w w5) := blThen HB4.out hb
    have HS5 := Lib.hid hsl
    clear hsl hn5 hge hb a0 a1' hs3
    go_wp2_with fail
    refine (max_any a5 c5 l _ hle HS5.out).mono ?_
    rw [HM.out]
    rintro e w6 ⟨rfl, hb⟩
    have HB6 : Hid (Below w.heap.size w w6) := blThen HB5.out hb
    clear hb
    go_wp2_with fail
    refine (refmax_any a cap l _ hle (HL.out.later HB6.out)).mono ?_
    rw [HM.out]
    rintro e w7 ⟨rfl, hb⟩
    have HB7 : Hid (Below w.heap.size w w7) := blThen HB6.out hb
    clear hb
    go_wp2_with (go_at_call 18; refine (live_any _).mono ?_; rintro e w8 ⟨rfl, hb⟩; have HB8 : Hid (Below w.heap.size w w8) := blThen HB7.out hb; clear hb)
    go_ret
    exact ⟨rfl, HB8.out⟩

set_option maxRecDepth 100000 in
theorem stampAfter_lifted (os : Os) (started : os.Started) (H : Type) (enc : TypeId × Value → H) :
    ReturnsInHanded {} Try.checked os 4 .any (Rows.stampAfterSpec.pre6 enc Try.prog Try.f4 Rows.stampAfterRow.domain false) (Rows.stampAfterSpec.post enc Try.prog Try.f4 false true false false) := by
  refine law_lift (C := Try.checked) own0 started (by kernel_rfl) Try.func4 laid0 rfl (by kernel_rfl) (fun _ _ _ _ => trodAll_mk1 (shut_bool Try.underlying4 true)) (fun ds h => match ds, h with | [_, _], _ => ⟨rfl, rfl, rfl⟩)
    (ChangeSpec.witness6 (enc := enc) (C := Try.checked) false ⟨#[], #[.int .i64 0, .slice none 0 0], []⟩ 8 (by kernel_rfl) (by kernel_rfl) (by kernel_rfl) (by kernel_rfl)) ?_
  intro W base args ds before hval0 hA0 hlt
  have hval : ∀ (j : Nat) t v, Try.f4.params[j]? = some t → args[j]? = some v → Value.okWide Try.prog W .any base t v := hval0
  have hA : DataW.TrodAll enc Try.prog W 0 (fun _ => true) true Try.f4.params.toList args.toList ds before := hA0
  rw [Try.params4] at hA hval
  obtain ⟨v0, v1, d0, d1, p0, p1, rfl, rfl, rfl, h0, h1⟩ := trodAll_two hA
  obtain ⟨n, rfl, rfl, rfl, wn⟩ := open_int Try.underlying3 (hval 0 3 v0 rfl rfl) h0
  obtain ⟨a, l, cap, rfl, hl1, hm1, hn1, hb1, hw1⟩ := open_stamps (hval 1 31 v1 rfl rfl) h1
  exact stampAfter_walk n a cap l W hl1 hn1 hm1

theorem stampAfter_holds : Rows.StampAfterSaid :=
  OpenClaim.holds_of_wide 4 Try.f4 rfl rfl rfl rfl rfl rfl rfl ⟨rfl, rfl, rfl, rfl, rfl⟩ rfl rfl rfl rfl rfl (by kernel_rfl) Try.func4 (by kernel_rfl)
    (of_decide_eq_true (by kernel_rfl)) (by unfold Func.isWrapper; rw [if_neg (of_decide_eq_false (by kernel_rfl))]; exact ⟨rfl, rfl⟩)
    (fun os started H enc _ => stampAfter_lifted os started H enc)

#print axioms stampAfter_holds

end Go.Proofs.Ytnicdbkjgicliaa
