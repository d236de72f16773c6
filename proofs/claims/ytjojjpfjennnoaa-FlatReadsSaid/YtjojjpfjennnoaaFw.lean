/- FlatWidths: how many bytes a number, a text, stamps, a list, a truth have: whatever is laid, the law returns true and leaves its arguments as they were. Conditions: none. -/
import Derived.Test.YtjojjpfjennnoaaFp
namespace Go.Proofs.Ytjojjpfjennnoaa
open Go.ChangeShapes Go.WideShapes Go.ChangeAt Go.RowKit Go.Joins Go.Deep

/-- Of a slice of numbers that came in, where it lies, seen from pens that are the call's own. -/
theorem IL.place {w : World} {g : Nat} {a : Option Addr} {l : List Int} (h : IL w g a l) (hg : l ≠ [] → g < w.heap.size) (k : Nat) : ∃ g', IL w g' a l ∧ (g' < w.heap.size ∨ g' = k) := by
  by_cases hl : l = []
  · subst hl; exact ⟨k, fun h => absurd rfl h, .inr rfl⟩
  · exact ⟨g, h, .inl (hg hl)⟩
theorem TL.place {w : World} {g : Nat} {a : Option Addr} {l : List ByteArray} (h : TL w g a l) (hg : l ≠ [] → g < w.heap.size) (k : Nat) : ∃ g', TL w g' a l ∧ (g' < w.heap.size ∨ g' = k) := by
  by_cases hl : l = []
  · subst hl; exact ⟨k, fun h => absurd rfl h, .inr rfl⟩
  · exact ⟨g, h, .inl (hg hl)⟩
/-- A slice that came in is no part of a pen that is the call's own. -/
theorem notPen {B b g : Nat} {r : Option Nat} (hg : g < B) (hb : B ≤ b) (hr : ∀ k, r = some k → B ≤ k) : ¬ PenS b r g := by
  rintro (e | e)
  · omega
  · have := hr g e; omega
theorem Row.len_form {w : World} {g : Option Nat} {v : Value} {l : List UInt8} (h : Row w g v l) (n : Nat) (hn : l.length = n) : ∃ a c, v = .slice a n c := by
  subst hn
  rcases h.1.2 with ⟨hv, h0⟩ | ⟨b, cap, cur, rfl, _⟩
  · exact ⟨none, 0, by rw [h0]; exact hv⟩
  · exact ⟨_, _, rfl⟩
/-- A pen is as it was, whatever another one lays. -/
theorem PenAt.beside {w w' : World} {b b' : Nat} {r r' r'' : Option Nat} {l : List UInt8} (h : PenAt w b r l) (k : PenStep b' r' r'' w w') (h1 : b ≠ b') (h2 : r ≠ some b') (h3 : r' ≠ some b) (h4 : ∀ x, r = some x → r' ≠ some x) : PenAt w' b r l :=
  h.keep k.keeps (fun e => by rcases e with e | e; exact h1 e; exact h3 e) fun x hx e => by
    rcases e with e | e
    · subst e; exact h2 hx
    · exact h4 x hx e
theorem PenAt.rowLt {w : World} {b k : Nat} {r : Option Nat} {l : List UInt8} (h : PenAt w b r l) (hr : r = some k) : k < w.heap.size := by
  obtain ⟨_, _, h, _⟩ := h
  exact h.lt hr
theorem st_len (l : List (Int × Int)) : (l.flatMap st).length = 16 * l.length := flat_length st 16 st_length l
theorem sts_len (l : List (Int × Int)) : (sts l).length = 8 + 16 * l.length := by
  unfold sts
  rw [List.length_append, i8_length, st_len]
theorem bNone' {w x y : World} {S : Nat → Prop} (h : Below w.heap.size w x) (k : Keeps S x y) (hS : ∀ z, S z → w.heap.size ≤ z) : Below w.heap.size w y :=
  h.trans (k.below h.size fun z hz hs => by have := hS z hs; omega)

set_option maxRecDepth 100000 in
set_option maxHeartbeats 4000000 in
theorem flatWidths_big (a1 : Option Addr) (c1 : Nat) (ns : List Int) (s : ByteArray) (a2 : Option Addr) (c2 : Nat) (l : List (Int × Int)) (w : World) (hm1 : ns.length ≤ maxLen) (hm2 : s.size ≤ maxLen) (hm3 : l.length ≤ maxLen) (h : 60 < ns.length ∨ 20000 < s.size ∨ 60 < l.length) :
    Calls Try.prog 8 #[.slice a1 ns.length c1, .string s, .slice a2 l.length c2] w fun e w' => e = .returned (.bool true) ∧ Below w.heap.size w w' := by
  unfold maxLen at hm1 hm2 hm3
  by_cases h1 : 60 < ns.length
  · go_enter Try.func8, Try.ntmps8
    go_wp2_with (go_at_call 13; refine (live_any _).mono ?_; rintro e w1 ⟨rfl, hb1⟩; have HB1 := Lib.hid hb1; clear hb1)
    go_ret
    exact ⟨rfl, HB1.out⟩
  · by_cases h2 : 20000 < s.size
    · go_enter Try.func8, Try.ntmps8
      go_wp2_with (go_at_call 13; refine (live_any _).mono ?_; rintro e w1 ⟨rfl, hb1⟩; have HB1 := Lib.hid hb1; clear hb1)
      go_ret
      exact ⟨rfl, HB1.out⟩
    · have h3 : 60 < l.length := by omega
      clear h
      go_enter Try.func8, Try.ntmps8
      go_wp2_with (go_at_call 13; refine (live_any _).mono ?_; rintro e w1 ⟨rfl, hb1⟩; have HB1 := Lib.hid hb1; clear hb1)
      go_ret
      exact ⟨rfl, HB1.out⟩

set_option maxRecDepth 100000 in
set_option maxHeartbeats 4000000 in
theorem flatWidths_walk (a1 : Option Addr) (c1 g1 : Nat) (ns : List Int) (s : ByteArray) (a2 : Option Addr) (c2 g2 : Nat) (l : List (Int × Int)) (w : World) (hm1 : ns.length ≤ maxLen) (hm2 : s.size ≤ maxLen) (hm3 : l.length ≤ maxLen)
    (hi : IL w g1 a1 ns) (hg1 : ns ≠ [] → g1 < w.heap.size) (hl : SL w g2 a2 l) (hg2 : l ≠ [] → g2 < w.heap.size) :
    Calls Try.prog 8 #[.slice a1 ns.length c1, .string s, .slice a2 l.length c2] w fun e w' => e = .returned (.bool true) ∧ Below w.heap.size w w' := by
  by_cases hbig : 60 < ns.length ∨ 20000 < s.size ∨ 60 < l.length
  · exact flatWidths_big a1 c1 ns s a2 c2 l w hm1 hm2 hm3 hbig
  · have h1 : ns.length ≤ 60 := by omega
    have h2 : s.size ≤ 20000 := by omega
    have h3 : l.length ≤ 60 := by omega
    have hd1 : decide ((60 : Int) < (ns.length : Int)) = false := by simp; omega
    have hd2 : decide ((20000 : Int) < (s.size : Int)) = false := by simp; omega
    have hd3 : decide ((60 : Int) < (l.length : Int)) = false := by simp; omega
    clear hbig hm1 hm2 hm3
    obtain ⟨g1', hi', hg1'⟩ := hi.place hg1 (w.heap.size + 3)
    have HI := Lib.hid hi'
    have HL := Lib.hid hl
    have HG2 := Lib.hid hg2
    clear hi hi' hl hg1 hg2
    go_enter Try.func8, Try.ntmps8
    go_wp2_with fail
    have hK0 : Keeps (fun _ => False) w (((w.alloc (Obj.cells #[Value.slice none 0 0] 32)).alloc (Obj.cells #[Value.slice none 0 0] 32)).alloc (Obj.cells #[Value.slice none 0 0] 32)) := (by repeat (first | with_reducible exact Keeps.refl _ _ | with_reducible refine kAlloc ?_ _ | with_reducible refine kDrew ?_))
    have hp : PenAt (((w.alloc (Obj.cells #[Value.slice none 0 0] 32)).alloc (Obj.cells #[Value.slice none 0 0] 32)).alloc (Obj.cells #[Value.slice none 0 0] 32)) w.heap.size none [] := ((pen_new w).before (Keeps.alloc _ _ _)).before (Keeps.alloc _ _ _)
    have hq : PenAt (((w.alloc (Obj.cells #[Value.slice none 0 0] 32)).alloc (Obj.cells #[Value.slice none 0 0] 32)).alloc (Obj.cells #[Value.slice none 0 0] 32)) (w.heap.size + 1) none [] := (by have h := pen_new (w.alloc (Obj.cells #[Value.slice none 0 0] 32)); rw [World.size_alloc] at h; exact h.before (Keeps.alloc _ _ _))
    have hr : PenAt (((w.alloc (Obj.cells #[Value.slice none 0 0] 32)).alloc (Obj.cells #[Value.slice none 0 0] 32)).alloc (Obj.cells #[Value.slice none 0 0] 32)) (w.heap.size + 2) none [] := (by have h := pen_new ((w.alloc (Obj.cells #[Value.slice none 0 0] 32)).alloc (Obj.cells #[Value.slice none 0 0] 32)); rw [World.size_alloc, World.size_alloc] at h; exact h)
    have hsz : (((w.alloc (Obj.cells #[Value.slice none 0 0] 32)).alloc (Obj.cells #[Value.slice none 0 0] 32)).alloc (Obj.cells #[Value.slice none 0 0] 32)).heap.size = w.heap.size + 3 := by simp
    generalize ((w.alloc (Obj.cells #[Value.slice none 0 0] 32)).alloc (Obj.cells #[Value.slice none 0 0] 32)).alloc (Obj.cells #[Value.slice none 0 0] 32) = W at *
    have HSZ := Lib.hid hsz
    have hS0 : Below w.heap.size w W := noneB hK0 (Nat.le_refl _)
    refine (int_any W w.heap.size none [] g1' a1 c1 ns hp (HI.out.keep hK0 (fun h => h)) (by rcases hg1' with h | h; exact notPen h (Nat.le_refl _) (fun _ h => by cases h); exact hp.apart (by omega)) (by simp; omega)).mono ?_
    rintro e w4 ⟨rfl, r1, hp4, hs4⟩
    have HP4 := Lib.hid hp4
    have HR1 := Lib.hid (hs4.from (B := w.heap.size + 3) (by omega) (fun _ h => by cases h))
    have HQ4 := Lib.hid (hq.beside hs4 (by omega) (by simp) (by simp) (fun _ h => by cases h))
    have HRR4 := Lib.hid (hr.beside hs4 (by omega) (by simp) (by simp) (fun _ h => by cases h))
    have HL4 := Lib.hid fun hne => (HL.out.keep hK0 (fun h => h)).keep hs4.keeps (notPen (HG2.out hne) (Nat.le_refl _) (fun _ h => by cases h))
    have HS4 : Hid (Below w.heap.size w w4) := hS0.trans (hs4.below (by omega) (Nat.le_refl _) (fun _ h => by cases h))
    have HZ4 : Hid (w.heap.size + 3 ≤ w4.heap.size) := by have := hs4.keeps.size; show _ ≤ _; omega
    clear hp hq hr hp4 hs4 hK0 hS0 hsz
    go_wp2_with fail
    refine (text_any _ (w.heap.size + 1) none [] w4.heap.size _ 1 [s] (HQ4.out.before (Keeps.alloc _ _ _)) (text_new w4 s _ rfl _ rfl) (HQ4.out.apart (Nat.le_refl _)) (fun j x hx => ?_) (by simp) (by simp [txSum]; omega)).mono ?_
    · match j, hx with
      | 0, hx => simp at hx; subst hx; omega
    rintro e w5 ⟨rfl, r2, hq5, hs5'⟩
    have hs5 := hs5'.before (w := w4) (Keeps.alloc _ _ _)
    have HQ5 := Lib.hid hq5
    have HR2 := Lib.hid (hs5.from (B := w.heap.size + 3) HZ4.out (fun _ h => by cases h))
    have HP5 := Lib.hid (HP4.out.beside hs5 (by omega) (fun h => by have := HR1.out _ h; omega) (by simp) (fun _ _ h => by cases h))
    have HRR5 := Lib.hid (HRR4.out.beside hs5 (by omega) (by simp) (by simp) (fun _ h => by cases h))
    have HL5 := Lib.hid fun hne => (HL4.out hne).keep hs5.keeps (notPen (HG2.out hne) (by omega) (fun _ h => by cases h))
    have HS5 : Hid (Below w.heap.size w w5) := HS4.out.trans (hs5.below HS4.out.size (by omega) (fun _ h => by cases h))
    have HZ5 : Hid (w.heap.size + 3 ≤ w5.heap.size) := by have := hs5.keeps.size; have := HZ4.out; show _ ≤ _; omega
    clear hq5 hs5 hs5'
    go_wp2_with fail
    have hstp : ∃ g3, SL w5 g3 a2 l ∧ ¬ PenS (w.heap.size + 2) none g3 ∧ g3 < w5.heap.size := by
      by_cases hne : l = []
      · subst hne
        exact ⟨w.heap.size, fun h => absurd rfl h, (fun h => by rcases h with h | h; omega; cases h), (by have := HZ5.out; omega)⟩
      · have := HG2.out hne
        exact ⟨g2, HL5.out hne, notPen this (by omega) (fun _ h => by cases h), (by have := HZ5.out; omega)⟩
    obtain ⟨g3, hsl3, hnp3, hlt3⟩ := hstp
    refine (stamps_any w5 (w.heap.size + 2) none [] g3 a2 c2 l HRR5.out hsl3 hnp3 hlt3 (by simp; omega)).mono ?_
    rintro e w6 ⟨rfl, r3, hr6, hs6⟩
    have HRR6 := Lib.hid hr6
    have HR3 := Lib.hid (hs6.from (B := w.heap.size + 3) HZ5.out (fun _ h => by cases h))
    have HP6 := Lib.hid (HP5.out.beside hs6 (by omega) (fun h => by have := HR1.out _ h; omega) (by simp) (fun _ _ h => by cases h))
    have HQ6 := Lib.hid (HQ5.out.beside hs6 (by omega) (fun h => by have := HR2.out _ h; omega) (by simp) (fun _ _ h => by cases h))
    have HS6 : Hid (Below w.heap.size w w6) := HS5.out.trans (hs6.below HS5.out.size (by omega) (fun _ h => by cases h))
    clear hr6 hs6 hsl3 hnp3 hlt3
    go_wp2_with fail
    have hlt6 := HP6.out.lt
    have hlt6q := HQ6.out.lt
    have hlt6r := HRR6.out.lt
    refine (bool_any _ w6.heap.size none [] _ (pen_new w6) (by simp)).mono ?_
    rintro e w7 ⟨rfl, r4, hx7, hs7'⟩
    have hs7 := hs7'.before (w := w6) (Keeps.alloc _ _ _)
    have HX7 := Lib.hid hx7
    have HP7 := Lib.hid (HP6.out.beside hs7 (by omega) (fun h => by have := HP6.out.rowLt h; omega) (by simp) (fun _ _ h => by cases h))
    have HQ7 := Lib.hid (HQ6.out.beside hs7 (by omega) (fun h => by have := HQ6.out.rowLt h; omega) (by simp) (fun _ _ h => by cases h))
    have HRR7 := Lib.hid (HRR6.out.beside hs7 (by omega) (fun h => by have := HRR6.out.rowLt h; omega) (by simp) (fun _ _ h => by cases h))
    have HS7 : Hid (Below w.heap.size w w7) := HS6.out.trans (hs7.below HS6.out.size (by omega) (fun _ h => by cases h))
    clear hx7 hs7 hs7'
    have hn1 : ([] ++ ns.flatMap i8).length = 8 * ns.length := by rw [List.nil_append]; exact flat_length i8 8 i8_length ns
    have hn2 : ([] ++ [s].flatMap tx).length = 4 + s.size := by rw [List.nil_append, tx_sum]; simp [txSum]
    have hn3 : ([] ++ sts l).length = 8 + 16 * l.length := by rw [List.nil_append]; exact sts_len l
    have HN1 := Lib.hid hn1
    have HN2 := Lib.hid hn2
    have HN3 := Lib.hid hn3
    clear hn1 hn2 hn3
    go_wp2_with fail
    refine (bytes_any w7 w.heap.size r1 _ HP7.out (by rw [HN1.out]; omega)).mono ?_
    rintro e w8 ⟨v1, k1, rfl, hr8, _, hb8⟩
    obtain ⟨va1, vc1, rfl⟩ := hr8.len_form _ HN1.out
    have HQ8 := Lib.hid (HQ7.out.keep (ofB (S := fun _ => False) hb8) (fun h => h) (fun _ _ h => h))
    have HRR8 := Lib.hid (HRR7.out.keep (ofB (S := fun _ => False) hb8) (fun h => h) (fun _ _ h => h))
    have HX8 := Lib.hid (HX7.out.keep (ofB (S := fun _ => False) hb8) (fun h => h) (fun _ _ h => h))
    have HS8 : Hid (Below w.heap.size w w8) := bThen' HS7.out hb8
    clear hr8 hb8
    go_wp2_with fail
    refine (bytes_any w8 (w.heap.size + 1) r2 _ HQ8.out (by rw [HN2.out]; omega)).mono ?_
    rintro e w9 ⟨v2, k2, rfl, hr9, _, hb9⟩
    obtain ⟨va2, vc2, rfl⟩ := hr9.len_form _ HN2.out
    have HRR9 := Lib.hid (HRR8.out.keep (ofB (S := fun _ => False) hb9) (fun h => h) (fun _ _ h => h))
    have HX9 := Lib.hid (HX8.out.keep (ofB (S := fun _ => False) hb9) (fun h => h) (fun _ _ h => h))
    have HS9 : Hid (Below w.heap.size w w9) := bThen' HS8.out hb9
    clear hr9 hb9
    go_wp2_with fail
    refine (bytes_any w9 (w.heap.size + 2) r3 _ HRR9.out (by rw [HN3.out]; omega)).mono ?_
    rintro e w10 ⟨v3, k3, rfl, hr10, _, hb10⟩
    obtain ⟨va3, vc3, rfl⟩ := hr10.len_form _ HN3.out
    have HX10 := Lib.hid (HX9.out.keep (ofB (S := fun _ => False) hb10) (fun h => h) (fun _ _ h => h))
    have HS10 : Hid (Below w.heap.size w w10) := bThen' HS9.out hb10
    clear hr10 hb10
    go_wp2_with fail
    refine (bytes_any w10 w6.heap.size r4 _ HX10.out (by rw [List.nil_append]; unfold tb; rw [low_length]; decide)).mono ?_
    rintro e w11 ⟨v4, k4, rfl, hr11, _, hb11⟩
    obtain ⟨va4, vc4, rfl⟩ := hr11.len_form 1 (by rw [List.nil_append]; unfold tb; rw [low_length])
    have HS11 : Hid (Below w.heap.size w w11) := bThen' HS10.out hb11
    clear hr11 hb11
    go_wp2_with (go_at_call 13; refine (live_any _).mono ?_; rintro e w12 ⟨rfl, hb1⟩; have HB1 := Lib.hid hb1; clear hb1)
    go_ret
    exact ⟨rfl, bThen' HS11.out HB1.out⟩

set_option maxRecDepth 100000 in
theorem flatWidths_lifted (os : Os) (started : os.Started) (H : Type) (enc : TypeId × Value → H) :
    ReturnsInHanded {} Try.checked os 8 .any (Rows.flatWidthsSpec.pre6 enc Try.prog Try.f8 Rows.flatWidthsRow.domain false) (Rows.flatWidthsSpec.post enc Try.prog Try.f8 false true false false) := by
  refine law_lift (C := Try.checked) own0 started (by kernel_rfl) Try.func8 laid0 rfl (by kernel_rfl) (fun _ _ _ _ => trodAll_mk1 (shut_bool Try.underlying4 true)) (fun ds h => match ds, h with | [_, _, _], _ => ⟨rfl, rfl, rfl⟩)
    (ChangeSpec.witness6 (enc := enc) (C := Try.checked) false ⟨#[], #[.slice none 0 0, .string ⟨#[]⟩, .slice none 0 0], []⟩ 8 (by kernel_rfl) (by kernel_rfl) (by kernel_rfl) (by kernel_rfl)) ?_
  intro W base args ds before hval0 hA0 hlt
  have hval : ∀ (j : Nat) t v, Try.f8.params[j]? = some t → args[j]? = some v → Value.okWide Try.prog W .any base t v := hval0
  have hA : DataW.TrodAll enc Try.prog W 0 (fun _ => true) true Try.f8.params.toList args.toList ds before := hA0
  rw [Try.params8] at hA hval
  obtain ⟨v0, v1, v2, d0, d1, d2, p0, p1, p2, rfl, rfl, rfl, h0, h1, h2⟩ := trodAll_three hA
  obtain ⟨a1, ns, c1, g1, rfl, hm0, hw0, hi0, hg0⟩ := open_i64s Try.underlying23 Try.underlying2 cells_i64 (hval 0 23 v0 rfl rfl) h0
  obtain ⟨s, rfl, rfl, rfl, hs1⟩ := Go.ChangeMaps.open_string Try.underlying9 (hval 1 9 v1 rfl rfl) h1
  obtain ⟨a2, l, c2, g2, rfl, hsl2, hm2, hg2, hw2⟩ := open_stamps (hval 2 52 v2 rfl rfl) h2
  exact flatWidths_walk a1 c1 g1 ns s a2 c2 g2 l W hm0 hs1 hm2 hi0 hg0 hsl2 hg2

theorem flatWidths_holds : Rows.FlatWidthsSaid :=
  OpenClaim.holds_of_wide 8 Try.f8 rfl rfl rfl rfl rfl rfl rfl ⟨rfl, rfl, rfl, rfl, rfl⟩ rfl rfl rfl rfl rfl (by kernel_rfl) Try.func8 (by kernel_rfl)
    (of_decide_eq_true (by kernel_rfl)) (by unfold Func.isWrapper; rw [if_neg (of_decide_eq_false (by kernel_rfl))]; exact ⟨rfl, rfl⟩)
    (fun os started H enc _ => flatWidths_lifted os started H enc)

#print axioms flatWidths_holds

end Go.Proofs.Ytjojjpfjennnoaa
