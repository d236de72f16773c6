/- The shard of a text, by the program and by the reference. Conditions: a topology whose shards' spans are not empty, one of which has the text. -/
import Derived.Test.YtkgfpppbpjinaaaTl
import Derived.Deep.RegionWith
set_option linter.unusedVariables false
namespace Go.Proofs.Ytkgfpppbpjinaaa
open Go.RowKit

theorem set_one {s : Sp} (h : fullS s = true) : IsSet [s] := isSet_cons.2 ⟨h, fun t ht => (by cases ht), isSet_nil⟩
theorem memL_one (s : Sp) (k : ByteArray) : memL [s] k = inS s k := by rw [memL_cons, memL_nil, Bool.or_false]
/-- The slice of one span that has just been laid. -/
theorem sl_one (X : World) (s : Sp) (n : Nat) (h : X.heap.size = n) : Sl (X.alloc (.cells #[.string s.1, .string s.2] 35)) (.slice (some ⟨n, 0, none⟩) 1 1) [s] := one_new X s n h
theorem shBox_new (w : World) (s : Sh) : (w.alloc (.cells #[.string s.sp.1, .string s.sp.2, .slice s.na s.nodes.length s.nc] 37)).cell? ⟨w.heap.size, 0, none⟩ = some (.string s.sp.1) ∧ (w.alloc (.cells #[.string s.sp.1, .string s.sp.2, .slice s.na s.nodes.length s.nc] 37)).cell? ⟨w.heap.size, 1, none⟩ = some (.string s.sp.2) ∧ (w.alloc (.cells #[.string s.sp.1, .string s.sp.2, .slice s.na s.nodes.length s.nc] 37)).cell? ⟨w.heap.size, 2, none⟩ = some (.slice s.na s.nodes.length s.nc) := by
  have h := heap_alloc_new w (.cells #[.string s.sp.1, .string s.sp.2, .slice s.na s.nodes.length s.nc] 37)
  refine ⟨?_, ?_, ?_⟩ <;> (rw [cell_of_row _ _ _ _ _ _ h]; rfl)

theorem keep4 {w w' : World} {a b : Nat} {u v x y : Value} (h : Below w.heap.size w w') (ha : a < w.heap.size) (hb : b < w.heap.size) (c0 : w.cell? ⟨a, 0, none⟩ = some u) (c1 : w.cell? ⟨b, 0, none⟩ = some v) (c2 : w.cell? ⟨b, 1, none⟩ = some x) (c3 : w.cell? ⟨b, 2, none⟩ = some y) :
    w'.cell? ⟨a, 0, none⟩ = some u ∧ w'.cell? ⟨b, 0, none⟩ = some v ∧ w'.cell? ⟨b, 1, none⟩ = some x ∧ w'.cell? ⟨b, 2, none⟩ = some y :=
  ⟨cell_in h ha c0, cell_in h hb c1, cell_in h hb c2, cell_in h hb c3⟩
set_option maxRecDepth 100000 in
set_option maxHeartbeats 2000000 in
theorem find1_any (W : World) (Bk : Nat) (k : ByteArray) (s : Sh) (hBk : Box1 W Bk 9 (.string k)) (hf : fullS s.sp = true) :
    Calls Try.prog 36 #[shV s, .pointer (some ⟨Bk, 0, none⟩)] W fun e w' => e = .returned (.bool (inS s.sp k)) ∧ Below W.heap.size W w' := by
  unfold shV
  obtain ⟨s0, s1, s2⟩ := shBox_new W s
  have hb0 := blAlloc (Below.refl W.heap.size W) (.cells #[.string s.sp.1, .string s.sp.2, .slice s.na s.nodes.length s.nc] 37)
  have hk0 := cell_in hb0 hBk.lt hBk.c
  have hl0 := Nat.lt_of_lt_of_le hBk.lt hb0.size
  have HB0 := Lib.hid hb0
  have HS := Lib.hid (set_one hf)
  clear hb0 hf
  go_enter Try.func36, Try.ntmps36
  go_wp2
  go_region_held3 (fun w' => w'.cell? ⟨Bk, 0, none⟩ = some (.string k) ∧ w'.cell? ⟨W.heap.size, 0, none⟩ = some (.string s.sp.1) ∧ w'.cell? ⟨W.heap.size, 1, none⟩ = some (.string s.sp.2) ∧ w'.cell? ⟨W.heap.size, 2, none⟩ = some (.slice s.na s.nodes.length s.nc)) (first | go_keep | exact keep4 (w := W.alloc (.cells #[.string s.sp.1, .string s.sp.2, .slice s.na s.nodes.length s.nc] 37)) (blThen ((blAlloc (blAlloc (Below.refl _ _) _) _)).drew hb1) hl0 (by simp) hk0 s0 s1 s2)
    (first
      | (go_at_call 38; refine (only_any s _).mono ?_; rintro r w1 ⟨rfl, rfl⟩)
      | (go_at_call 37; refine (has_any _ [s.sp] k _ ?_ ((sl_one _ s.sp _ ?_).later (Below.refl _ _).drew) HS.out).mono ?_; (focus simp); (focus simp); rintro r w1 ⟨rfl, hb1⟩; rw [memL_one]))
  all_goals
    go_wp2
    go_ret
    exact ⟨rfl, blThen HB0.out (blThen ((blAlloc (blAlloc (Below.refl _ _) _) _)).drew hb1)⟩

end Go.Proofs.Ytkgfpppbpjinaaa
