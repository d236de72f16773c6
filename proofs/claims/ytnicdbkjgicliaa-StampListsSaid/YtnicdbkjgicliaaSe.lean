/- live, the closed check that every statement of this stage ends with, returns true in every world and changes nothing that was there. Conditions: none. -/
import Derived.Test.YtnicdbkjgicliaaSd
namespace Go.Proofs.Ytnicdbkjgicliaa
open Go.RowKit Go.Sort

theorem one_sl (W : World) (x y : Int) (b : Nat) (h : Own2 W b x y) : SL W (some ⟨b, 0, none⟩) [(x, y)] := by
  intro _
  refine ⟨b, 0, rfl, h.lt, fun i x' y' hi => ?_⟩
  cases i with
  | zero =>
    simp only [List.getElem?_cons_zero, Option.some.injEq, Prod.mk.injEq] at hi
    obtain ⟨rfl, rfl⟩ := hi
    exact ⟨h.c0, h.c1⟩
  | succ i => simp at hi

theorem after_c (W : World) (b : Nat) (h : Own2 W b 5 3) :
    Calls Try.prog 19 #[.int .i64 2, .slice (some ⟨b, 0, none⟩) 1 1] W fun e w' => e = .returned (.tuple #[.agg #[.int .i64 6, .int .i64 2], .int .i64 0]) ∧ Below W.heap.size W w' :=
  after_any 2 (some ⟨b, 0, none⟩) 1 [(5, 3)] W (by simp) (one_sl W 5 3 b h)
theorem now_c4 (b : Nat) (w : World) (h : Clk w b 1 4) :
    Calls Try.prog 33 #[.pointer (some ⟨b, 0, none⟩)] w fun e w' => e = .returned (.tuple #[.agg #[.int .i64 5, .int .i64 1], .int .i64 0]) ∧ But b w w' ∧ Clk w' b 1 5 :=
  now_any b 1 4 w h (by omega)
theorem now_c9 (b : Nat) (w : World) (h : Clk w b 1 9) :
    Calls Try.prog 33 #[.pointer (some ⟨b, 0, none⟩)] w fun e w' => e = .returned (.tuple #[.agg #[.int .i64 10, .int .i64 1], .int .i64 0]) ∧ But b w w' ∧ Clk w' b 1 10 :=
  now_any b 1 9 w h (by omega)
theorem see_c (b c : Nat) (w : World) (h : Clk w b 1 5) (ho : Own2 w c 9 2) (hne : c ≠ b) :
    Calls Try.prog 35 #[.pointer (some ⟨b, 0, none⟩), .slice (some ⟨c, 0, none⟩) 1 1] w fun e w' => e = .returned (.tuple #[]) ∧ But b w w' ∧ Clk w' b 1 9 :=
  see_any b 1 5 (some ⟨c, 0, none⟩) 1 [(9, 2)] w (by simp) (one_sl w 9 2 c ho) (by
    intro bl o he
    simp only [Option.some.injEq, Addr.mk.injEq] at he
    rw [← he.1]
    exact hne) h

set_option maxHeartbeats 1000000 in
theorem live_any (w : World) : Calls Try.prog 18 #[] w fun e w' => e = .returned (.bool true) ∧ Below w.heap.size w w' := by
  go_enter Try.func18, Try.ntmps18
  go_wp2_with fail
  refine (after_c _ _ (own2_new w 5 3)).mono ?_
  rintro e w1 ⟨rfl, hb⟩
  have HB1 : Hid (Below w.heap.size w w1) := blThen (blAlloc (Below.refl _ _) _) hb
  clear hb
  go_wp2_with fail
  refine (new_yes 1 4 (by decide) _).mono ?_
  rintro e w2 ⟨rfl, rfl⟩
  go_wp2_with (go_at_call 14; refine (num_any _ _).mono ?_; rintro e w' ⟨rfl, rfl⟩)
  have hC : Clk ((w1.alloc (Obj.cells #[Value.int IntKind.i64 6, Value.int IntKind.i64 2] 23)).alloc (Obj.cells #[Value.int IntKind.i64 1, Value.int IntKind.i64 4] 76)) (w1.heap.size + 1) 1 4 := by
    have h := clk_new (w1.alloc (Obj.cells #[Value.int IntKind.i64 6, Value.int IntKind.i64 2] 23)) 1 4
    rwa [World.size_alloc] at h
  refine (now_c4 _ _ hC).mono ?_
  rintro e w3 ⟨rfl, hbut, hclk⟩
  have hs1 : w.heap.size ≤ w1.heap.size := HB1.out.size
  have HS3 : Hid (Own2 w3 w1.heap.size 6 2) := (own2_new0 w1 6 2 _).but hbut (by omega)
  have HB3 : Hid (Below w.heap.size w w3) := But.below (blAlloc (blAlloc HB1.out _) _) hbut (by omega) (by simp; omega)
  have HC3 : Hid (Clk w3 (w1.heap.size + 1) 1 5) := hclk
  have hs3 : w1.heap.size + 1 < w3.heap.size := hclk.lt
  clear hbut hclk hC
  go_wp2_with fail
  have hN : Own2 ((w3.alloc (Obj.cells #[Value.int IntKind.i64 5, Value.int IntKind.i64 1] 23)).alloc (Obj.cells #[Value.int IntKind.i64 9, Value.int IntKind.i64 2] 23)) (w3.heap.size + 1) 9 2 := own2_new1 _ _ _ _
  refine (see_c (w1.heap.size + 1) (w3.heap.size + 1) _ ((HC3.out.alloc _).alloc _) hN (by omega)).mono ?_
  rintro e w4 ⟨rfl, hbut, hclk⟩
  have HA4 : Hid (Own2 w4 w3.heap.size 5 1) := (own2_new0 w3 5 1 _).but hbut (by omega)
  have HS4 : Hid (Own2 w4 w1.heap.size 6 2) := (HS3.out.later (blAlloc (blAlloc (Below.refl _ _) _) _) (by omega)).but hbut (by omega)
  have HB4 : Hid (Below w.heap.size w w4) := But.below (blAlloc (blAlloc HB3.out _) _) hbut (by omega) (by simp; omega)
  have HC4 : Hid (Clk w4 (w1.heap.size + 1) 1 9) := hclk
  have hs4 : w3.heap.size < w4.heap.size := HA4.out.lt
  clear hbut hclk hN
  go_wp2_with fail
  refine (now_c9 _ _ HC4.out).mono ?_
  rintro e w5 ⟨rfl, hbut, hclk⟩
  have HA5 : Hid (Own2 w5 w3.heap.size 5 1) := HA4.out.but hbut (by omega)
  have HS5 : Hid (Own2 w5 w1.heap.size 6 2) := HS4.out.but hbut (by omega)
  have HB5 : Hid (Below w.heap.size w w5) := But.below HB4.out hbut (by omega) (by omega)
  have hs5 : w3.heap.size < w5.heap.size := HA5.out.lt
  have hs5m : ∀ m, w3.heap.size < w5.heap.size + m := fun m => by omega
  have hs6 : w1.heap.size < w5.heap.size := HS5.out.lt
  have hs6m : ∀ m, w1.heap.size < w5.heap.size + m := fun m => by omega
  have a0 := HA5.out.c0
  have a1 := HA5.out.c1
  have s0 := HS5.out.c0
  have s1 := HS5.out.c1
  clear hbut hclk hs1 hs3 hs4
  have HK : Hid (checkS (0, 0) = 10) := by show checkS (0, 0) = 10; decide
  have HP : Hid (cmpS 5 1 10 1 = -1) := by show cmpS 5 1 10 1 = -1; decide
  go_wp2_with (first | (go_at_call 15; refine (check_any _ _ _).mono ?_; rintro e w' ⟨rfl, q, os, rfl⟩; rw [HK.out]) | (go_at_call 14; refine (num_any _ _).mono ?_; rintro e w' ⟨rfl, rfl⟩) | (go_at_call 17; refine (compare_grow _ _ _ _ _).mono ?_; rintro e w' ⟨rfl, q2, os2, rfl⟩; rw [HP.out]))
  go_ret
  exact ⟨rfl, by repeat (first | with_reducible exact HB5.out | with_reducible refine blAlloc ?_ _ | with_reducible refine blGrown ?_ _ _)⟩

end Go.Proofs.Ytnicdbkjgicliaa
