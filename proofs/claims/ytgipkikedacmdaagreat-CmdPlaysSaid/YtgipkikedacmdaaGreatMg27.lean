/- The contracts of an eye's inner methods int, text, bool, stamp, stamps. Conditions: as each theorem states. -/
import Derived.Laws.IdiomStrings
import Derived.Lib.BufferRead
import Derived.Test.YtgipkikedacmdaaGreatMg26
set_option maxRecDepth 100000
set_option maxHeartbeats 16000000
namespace Go.Proofs.YtgipkikedacmdaaGreat
open Go.Lib renaming hid → hI
namespace S2
open Go.RowKit
theorem Bs.str {w : World} {g : Nat} {v : Value} {l : List UInt8} (h : Bs w g v l) : (convert 32 9 v).run Tryz.prog w = .ok (.string ⟨l.toArray⟩) w := by
 rcases h with ⟨rfl, rfl⟩ | ⟨o, cap, rfl, _, _, hc⟩
 ·exact Lib.run_convert_nil_bytes w 32 9 5 0 Tryz.underlying32 Tryz.underlying5 Tryz.underlying9
 ·refine run_convert_bytes_back w 32 9 5 ⟨g, o, none⟩ cap l Tryz.underlying32 Tryz.underlying5 Tryz.underlying9 fun j hj => ?_
  rw [add_plain]
  exact hc j _ (List.getElem?_eq_getElem hj)
def Blinded (w : World) (b g : Nat) (bl : Bool) (e : Ending) (w' : World) : Prop := e = .panicked blindCh ∧ (∃ l', EyeAt w' b g l' bl) ∧ Keeps (Only b) w w'
def Seen (w : World) (b g : Nat) (bl : Bool) (v : Value) (l' : List UInt8) (e : Ending) (w' : World) : Prop := e = .returned v ∧ EyeAt w' b g l' bl ∧ Keeps (Only b) w w'
def rd (l : List UInt8) : Int := wrap64 (leN (l.take 8))
theorem ret_bool {a b : Bool} (h : a = b) : Ending.returned (.bool a) = .returned (.bool b) := by rw [h]
theorem int_yes (w : World) (b g : Nat) (l : List UInt8) (bl : Bool) (he : EyeAt w b g l bl) (hn : 8 ≤ l.length) :
  Calls Tryz.prog 160 #[.pointer (some ⟨b, 0, none⟩)] w (Seen w b g bl (.int .i64 (rd l)) (l.drop 8)) := by
 have HE := hI he
 clear he
 go_enter Tryz.func160, Tryz.ntmps160
 go_wp2_with (go_at_call 197; refine (number_yes _ b g l bl 8 (Nat.le_refl _) HE.out hn).mono ?_; rintro e w1 ⟨rfl, he1, hk1⟩; have HE1 := hI he1; have HK1 := hI hk1; clear he1 hk1)
 go_ret
 exact ⟨rfl, HE1.out, HK1.out⟩
theorem int_no (w : World) (b g : Nat) (l : List UInt8) (bl : Bool) (he : EyeAt w b g l bl) (hn : l.length < 8) :
  Calls Tryz.prog 160 #[.pointer (some ⟨b, 0, none⟩)] w (Blinded w b g bl) := by
 have HE := hI he
 clear he
 go_enter Tryz.func160, Tryz.ntmps160
 go_wp2_with (go_at_call 197; refine (number_no _ b g l bl 8 HE.out hn).mono ?_; rintro e w1 ⟨rfl, rfl⟩)
 exact ⟨rfl, rfl, ⟨_, HE.out⟩, Keeps.refl _ _⟩
theorem bool_yes (w : World) (b g : Nat) (l : List UInt8) (bl : Bool) (he : EyeAt w b g l bl) (hn : 1 ≤ l.length) (n : Nat) (hv : leN (l.take 1) = n) (h1 : n ≤ 1) :
  Calls Tryz.prog 175 #[.pointer (some ⟨b, 0, none⟩)] w (Seen w b g bl (.bool (decide (n = 1))) (l.drop 1)) := by
 have HE := hI he
 have HV := hI hv
 clear he hv
 have hb : ((n : Int) == 1) = decide (n = 1) := by rw [Bool.eq_iff_iff]; simp; omega
 have HB := hI hb
 clear hb
 go_enter Tryz.func175, Tryz.ntmps175
 go_wp2_with (go_at_call 197; refine (number_yes _ b g l bl 1 (by decide) HE.out hn).mono ?_; rintro e w1 ⟨rfl, he1, hk1⟩; have HE1 := hI he1; have HK1 := hI hk1; clear he1 hk1; rw [HV.out])
 go_ret
 exact ⟨ret_bool (by first | rfl | congr | exact HB.out), HE1.out, HK1.out⟩
theorem bool_no (w : World) (b g : Nat) (l : List UInt8) (bl : Bool) (he : EyeAt w b g l bl) (n : Nat) (hv : leN (l.take 1) = n) (h1 : l.length < 1 ∨ 1 < n) :
  Calls Tryz.prog 175 #[.pointer (some ⟨b, 0, none⟩)] w (Blinded w b g bl) := by
 have HE := hI he
 have HV := hI hv
 clear he hv
 by_cases hn : l.length < 1
 ·go_enter Tryz.func175, Tryz.ntmps175
  go_wp2_with (go_at_call 197; refine (number_no _ b g l bl 1 HE.out hn).mono ?_; rintro e w1 ⟨rfl, rfl⟩)
  exact ⟨rfl, rfl, ⟨_, HE.out⟩, Keeps.refl _ _⟩
 ·have h2 : 1 < n := by omega
  clear h1
  go_enter Tryz.func175, Tryz.ntmps175
  go_wp2_with (go_at_call 197; refine (number_yes _ b g l bl 1 (by decide) HE.out (by omega)).mono ?_; rintro e w1 ⟨rfl, he1, hk1⟩; have HE1 := hI he1; have HK1 := hI hk1; clear he1 hk1; rw [HV.out])
  exact ⟨rfl, rfl, ⟨_, HE1.out⟩, HK1.out⟩
theorem text_yes (w : World) (b g : Nat) (l : List UInt8) (bl : Bool) (he : EyeAt w b g l bl) (hn : 4 ≤ l.length) (n : Nat) (hv : leN (l.take 4) = n) (h1 : n ≤ 1048576) (h2 : n ≤ (l.drop 4).length) :
  Calls Tryz.prog 214 #[.pointer (some ⟨b, 0, none⟩)] w (Seen w b g bl (.string ⟨((l.drop 4).take n).toArray⟩) (l.drop (4 + n))) := by
 have HE := hI he
 have HV := hI hv
 have H2 := hI h2
 have HD : Hid ((l.drop 4).drop n = l.drop (4 + n)) := List.drop_drop
 clear he hv h2
 go_enter Tryz.func214, Tryz.ntmps214
 go_wp2_with (first | (go_at_call 197; refine (number_yes _ b g l bl 4 (by decide) HE.out hn).mono ?_; rintro e w1 ⟨rfl, he1, hk1⟩; have HE1 := hI he1; have HK1 := hI hk1; clear he1 hk1; rw [HV.out]) | (go_at_call 212; refine (take_yes _ b g (l.drop 4) bl n HE1.out H2.out).mono ?_; rintro e w2 ⟨v, rfl, hb2, he2, hk2⟩; have hstr := hb2.str; have HE2 := hI he2; have HK2 := hI hk2; clear hb2 he2 hk2))
 go_ret
 exact ⟨rfl, by rw [← HD.out]; exact HE2.out, HK1.out.then HK2.out⟩
theorem text_no (w : World) (b g : Nat) (l : List UInt8) (bl : Bool) (he : EyeAt w b g l bl) (n : Nat) (hv : leN (l.take 4) = n) (h1 : l.length < 4 ∨ 1048576 < n ∨ (l.drop 4).length < n) :
  Calls Tryz.prog 214 #[.pointer (some ⟨b, 0, none⟩)] w (Blinded w b g bl) := by
 have HE := hI he
 have HV := hI hv
 clear he hv
 by_cases hn : l.length < 4
 ·go_enter Tryz.func214, Tryz.ntmps214
  go_wp2_with (go_at_call 197; refine (number_no _ b g l bl 4 HE.out hn).mono ?_; rintro e w1 ⟨rfl, rfl⟩)
  exact ⟨rfl, rfl, ⟨_, HE.out⟩, Keeps.refl _ _⟩
 ·by_cases hm : 1048576 < n
  ·clear h1
   go_enter Tryz.func214, Tryz.ntmps214
   go_wp2_with (go_at_call 197; refine (number_yes _ b g l bl 4 (by decide) HE.out (by omega)).mono ?_; rintro e w1 ⟨rfl, he1, hk1⟩; have HE1 := hI he1; have HK1 := hI hk1; clear he1 hk1; rw [HV.out])
   exact ⟨rfl, rfl, ⟨_, HE1.out⟩, HK1.out⟩
  ·have H2 : Hid ((l.drop 4).length < n) := by show _ < _; omega
   have hm' : n ≤ 1048576 := by omega
   clear h1 hm
   go_enter Tryz.func214, Tryz.ntmps214
   go_wp2_with (first | (go_at_call 197; refine (number_yes _ b g l bl 4 (by decide) HE.out (by omega)).mono ?_; rintro e w1 ⟨rfl, he1, hk1⟩; have HE1 := hI he1; have HK1 := hI hk1; clear he1 hk1; rw [HV.out]) | (go_at_call 212; refine (take_no _ b g (l.drop 4) bl n HE1.out H2.out).mono ?_; rintro e w2 ⟨rfl, rfl⟩))
   exact ⟨rfl, rfl, ⟨_, HE1.out⟩, HK1.out⟩
def rdS (l : List UInt8) : Int × Int := (rd l, rd (l.drop 8))
theorem stamp_yes (w : World) (b g : Nat) (l : List UInt8) (bl : Bool) (he : EyeAt w b g l bl) (hn : 16 ≤ l.length) :
  Calls Tryz.prog 171 #[.pointer (some ⟨b, 0, none⟩)] w (Seen w b g bl (.agg #[.int .i64 (rd l), .int .i64 (rd (l.drop 8))]) (l.drop 16)) := by
 have HE := hI he
 have H1 : Hid (8 ≤ l.length) := by show _ ≤ _; omega
 have H2 : Hid (8 ≤ (l.drop 8).length) := by show _ ≤ _; rw [List.length_drop]; omega
 have HD : Hid ((l.drop 8).drop 8 = l.drop 16) := List.drop_drop
 clear he hn
 go_enter Tryz.func171, Tryz.ntmps171
 go_wp2_with fail
 have hE0 := HE.out.before (Keeps.alloc (fun _ => False) w (Obj.cells #[Value.int IntKind.i64 0, Value.int IntKind.i64 0] 23))
 have hR0 : (w.alloc (Obj.cells #[Value.int IntKind.i64 0, Value.int IntKind.i64 0] 23)).heap[w.heap.size]? = some (.cells #[.int .i64 0, .int .i64 0] 23 (0, 0)) := heap_alloc_new w _
 have hK0 : Keeps (Only b) w (w.alloc (Obj.cells #[Value.int IntKind.i64 0, Value.int IntKind.i64 0] 23)) := Keeps.alloc _ _ _
 generalize w.alloc (Obj.cells #[Value.int IntKind.i64 0, Value.int IntKind.i64 0] 23) = W at *
 refine (int_yes W b g l bl hE0 H1.out).mono ?_
 rintro e w1 ⟨rfl, he1, hk1⟩
 have HE1 := hI he1
 have HK1 := hI (hK0.then hk1)
 have hne : ¬ Only b w.heap.size := fun h => absurd HE.out.lt (by have h' : w.heap.size = b := h; omega)
 have hR1 := (hk1.block _ (lt_of_block hR0) hne).trans hR0
 have HR1 := hI hR1
 clear he1 hk1 hK0 hR0 hE0 hR1
 go_wp2_with fail
 refine (int_yes w1 b g (l.drop 8) bl HE1.out H2.out).mono ?_
 rintro e w2 ⟨rfl, he2, hk2⟩
 have HE2 := hI he2
 have HK2 := hI (HK1.out.then hk2)
 have hR2 := (hk2.block _ (lt_of_block HR1.out) hne).trans HR1.out
 have r0 : w2.cell? ⟨w.heap.size, 0, none⟩ = some (.int .i64 0) := by rw [cell_of_row _ _ _ _ _ _ hR2]; rfl
 have r1 : w2.cell? ⟨w.heap.size, 1, none⟩ = some (.int .i64 0) := by rw [cell_of_row _ _ _ _ _ _ hR2]; rfl
 have rf0 : w2.frozen? ⟨w.heap.size, 0, none⟩ = false := frozen_of_row _ _ _ _ _ hR2
 have rf1 : w2.frozen? ⟨w.heap.size, 1, none⟩ = false := frozen_of_row _ _ _ _ _ hR2
 have hR3 := block_setCell (i := 1) (block_setCell (i := 0) hR2 (.int .i64 (rd l))) (.int .i64 (rd (l.drop 8)))
 have e0 : ((w2.setCell ⟨w.heap.size, 0, none⟩ (.int .i64 (rd l))).setCell ⟨w.heap.size, 1, none⟩ (.int .i64 (rd (l.drop 8)))).cell? ⟨w.heap.size, 0, none⟩ = some (.int .i64 (rd l)) := by rw [cell_of_row _ _ _ _ _ _ hR3]; rfl
 have e1 : ((w2.setCell ⟨w.heap.size, 0, none⟩ (.int .i64 (rd l))).setCell ⟨w.heap.size, 1, none⟩ (.int .i64 (rd (l.drop 8)))).cell? ⟨w.heap.size, 1, none⟩ = some (.int .i64 (rd (l.drop 8))) := by rw [cell_of_row _ _ _ _ _ _ hR3]; rfl
 have hk3 : Keeps (Only b) w ((w2.setCell ⟨w.heap.size, 0, none⟩ (.int .i64 (rd l))).setCell ⟨w.heap.size, 1, none⟩ (.int .i64 (rd (l.drop 8)))) := kSet (kSet HK2.out (.inr (Nat.le_refl _)) _) (.inr (Nat.le_refl _)) _
 have hk23 : Keeps (Only w.heap.size) w2 ((w2.setCell ⟨w.heap.size, 0, none⟩ (.int .i64 (rd l))).setCell ⟨w.heap.size, 1, none⟩ (.int .i64 (rd (l.drop 8)))) := kSet (S := Only w.heap.size) (p := ⟨w.heap.size, 1, none⟩) (kSet (S := Only w.heap.size) (p := ⟨w.heap.size, 0, none⟩) (Keeps.refl _ _) (.inl rfl) _) (.inl rfl) _
 have HK3 := hI hk3
 have HE3 := hI (HE2.out.keep hk23 (fun h => hne h.symm) (fun h => HE.out.notNew (drop_ne (drop_ne h))))
 clear hk3 hk23 hR3 hR2 he2 hk2
 go_wp2
 exact bodyPost_ret (v := .agg #[.int .i64 (rd l), .int .i64 (rd (l.drop 8))]) (by simp [results, Tryz.results171, go_sem, e0, e1]) rfl ⟨rfl, by rw [← HD.out]; exact HE3.out, HK3.out⟩
theorem stamp_no (w : World) (b g : Nat) (l : List UInt8) (bl : Bool) (he : EyeAt w b g l bl) (hn : l.length < 16) :
  Calls Tryz.prog 171 #[.pointer (some ⟨b, 0, none⟩)] w (Blinded w b g bl) := by
 have HE := hI he
 clear he
 by_cases h8 : l.length < 8
 ·clear hn
  go_enter Tryz.func171, Tryz.ntmps171
  go_wp2_with (go_at_call 160; refine (int_no _ b g l bl (HE.out.before (Keeps.alloc _ _ _)) h8).mono ?_; rintro e w1 ⟨rfl, he1, hk1⟩; have HE1 := hI he1; have HK1 := hI hk1; clear he1 hk1)
  exact ⟨rfl, rfl, HE1.out, (Keeps.alloc _ _ _).then HK1.out⟩
 ·have H2 : Hid ((l.drop 8).length < 8) := by show _ < _; rw [List.length_drop]; omega
  go_enter Tryz.func171, Tryz.ntmps171
  go_wp2_with fail
  refine (int_yes _ b g l bl (HE.out.before (Keeps.alloc _ _ _)) (by omega)).mono ?_
  rintro e w1 ⟨rfl, he1, hk1⟩
  have HE1 := hI he1
  have HK1 : Hid (Keeps (Only b) w w1) := (Keeps.alloc _ _ _).then hk1
  clear he1 hk1
  go_wp2_with fail
  refine (int_no _ b g (l.drop 8) bl HE1.out H2.out).mono ?_
  rintro e w2 ⟨rfl, he2, hk2⟩
  have HE2 := hI he2
  have HK2 := hI (HK1.out.then hk2)
  clear he2 hk2
  go_wp2
  exact ⟨rfl, rfl, HE2.out, HK2.out⟩
def cellsL (l : List (Int × Int)) : List Value := l.flatMap fun s => [.int .i64 s.1, .int .i64 s.2]
theorem cellsL_length (l : List (Int × Int)) : (cellsL l).length = l.length * 2 := by
 induction l with
 | nil => rfl
 | cons a r ih => simp [cellsL] at ih ⊢; omega
theorem cellsL_append (l r : List (Int × Int)) : cellsL (l ++ r) = cellsL l ++ cellsL r := by simp [cellsL]
theorem cellsL_at (l : List (Int × Int)) : ∀ (i : Nat) (x y : Int), l[i]? = some (x, y) → (cellsL l)[i * 2]? = some (.int .i64 x) ∧ (cellsL l)[i * 2 + 1]? = some (.int .i64 y) := by
 induction l with
 | nil => intro i x y h; simp at h
 | cons a r ih =>
  intro i x y h
  cases i with
  | zero =>
   simp only [List.getElem?_cons_zero, Option.some.injEq] at h
   subst h
   exact ⟨rfl, rfl⟩
  | succ i =>
   obtain ⟨h1, h2⟩ := ih i x y (by simpa using h)
   have e : cellsL (a :: r) = Value.int .i64 a.1 :: Value.int .i64 a.2 :: cellsL r := rfl
   rw [e, show (i + 1) * 2 = i * 2 + 1 + 1 by omega]
   simpa using ⟨h1, h2⟩
theorem cellsL_one (l : List (Int × Int)) : ∀ u ∈ cellsL l, u.oneCell' = true := by
 intro u hu
 obtain ⟨s, _, hs⟩ := List.mem_flatMap.1 hu
 simp only [List.mem_cons, List.not_mem_nil, or_false] at hs
 rcases hs with rfl | rfl <;> rfl
def OwnL (w : World) (base : Nat) (v : Value) (l : List (Int × Int)) : Prop := w.ownsRow base 23 2 v l.length (cellsL l)
theorem OwnL.sl {w : World} {base : Nat} {v : Value} {l : List (Int × Int)} (h : OwnL w base v l) : ∃ a cap g, v = .slice a l.length cap ∧ SL w g a l ∧ base ≤ g := by
 obtain ⟨h1, h2 | ⟨g, cap, cur, hv, hg, hh, hn, hm, hs, hx⟩⟩ := h
 ·obtain ⟨rfl, hl⟩ := h2
  obtain rfl := List.eq_nil_of_length_eq_zero hl
  exact ⟨none, 0, base, rfl, fun h => absurd rfl h, Nat.le_refl _⟩
 ·refine ⟨_, cap, g, hv, fun _ => ⟨0, rfl, fun i x y hi => ?_⟩, hg⟩
  have hil := (List.getElem?_eq_some_iff.1 hi).1
  obtain ⟨c1, c2⟩ := cellsL_at l i x y hi
  rw [← hx] at c1 c2
  rw [List.getElem?_take_of_lt (by omega)] at c1 c2
  simp only [World.cell?, hh]
  exact ⟨by simpa using c1, by simpa using c2⟩
theorem OwnL.keep {S : Nat → Prop} {w w' : World} {base : Nat} {v : Value} {l : List (Int × Int)} (h : OwnL w base v l) (k : Keeps S w w') (hS : ∀ x, base ≤ x → ¬ S x) : OwnL w' base v l := by
 refine ⟨h.1, ?_⟩
 rcases h.2 with hn | ⟨g, cap, cur, rfl, hb, hh, r⟩
 ·exact .inl hn
 ·exact .inr ⟨g, cap, cur, rfl, hb, (k.block g (lt_of_block hh) (hS g hb)).trans hh, r⟩
theorem info_st : (Tryz.prog.info? 23).map (fun i => (i.zero, i.size, i.bytes)) = some (some (.agg #[.int .i64 0, .int .i64 0]), 2, 16) := by kernel_rfl
theorem append_one {w W : World} {ops : Array Oper} {rest : List Oper} {o : Oper} {a : Act} {Q : Exit → Act → World → Prop} (hgd : o.guard = none) (s x : Operand)
  (ho : o.op = .call { callee := .builtin .append, args := #[s, x], argTypes := #[80, 80] }) (base : Nat) (v : Value) (d : List (Int × Int)) (t n : Int) (hs : a.eval s = v) (hown : OwnL w base v d)
  (hW : W = w.alloc (.cells #[.int .i64 t, .int .i64 n] 23)) (hx : a.eval x = .slice (some ⟨w.heap.size, 0, none⟩) 1 1) (hlen : d.length ≤ 400000) (hbase : base ≤ w.heap.size)
  (h : ∀ v' w', OwnL w' base v' (d ++ [(t, n)]) → Keeps (fun x => base ≤ x) w w' → wpList Tryz.prog ops Q rest (a.put o.dst v') w') : wpList Tryz.prog ops Q (o :: rest) a W := by
 subst hW
 obtain ⟨i0, hi, hz0, hz1, hz2⟩ := info_parts info_st
 have hnew : (w.alloc (.cells #[.int .i64 t, .int .i64 n] 23)).heap[w.heap.size]? = some (.cells #[.int .i64 t, .int .i64 n] 23 (0, 0)) := heap_alloc_new w _
 refine wpList_append_own _ hgd s x 80 ho base 23 i0 (.agg #[.int .i64 0, .int .i64 0]) 2 16 Tryz.underlying80 hi hz0 hz1 hz2 rfl (by decide) v d.length (cellsL d) hs (World.ownsRow.alloc hown _) ⟨w.heap.size, 0, none⟩ 1 1 [.int .i64 t, .int .i64 n] hx rfl (fun j u hu => ?_) (by simp [Value.oneCell']) (by unfold maxLen; omega) (by omega) (by simp; omega) ?_
 ·rw [add_plain, cell_of_row _ _ _ _ _ _ hnew, Nat.zero_add]
  match j, hu with
  | 0, hu => simpa using hu
  | 1, hu => simpa using hu
 ·intro v' w' h1 h2 _
  refine h v' w' ?_ (kGrown (kAlloc (Keeps.refl _ _) _) h2 fun k e => .inl (hown.lt k e).1)
  show w'.ownsRow base _ 2 v' _ _
  rw [List.length_append, cellsL_append]
  exact h1
def rdL (l : List UInt8) (n : Nat) : List (Int × Int) := (List.range n).map fun j => rdS (l.drop (8 + 16 * j))
theorem rdL_length (l : List UInt8) (n : Nat) : (rdL l n).length = n := by simp [rdL]
theorem rdL_succ (l : List UInt8) (n : Nat) : rdL l (n + 1) = rdL l n ++ [rdS (l.drop (8 + 16 * n))] := by simp [rdL, List.range_succ]
def hasL (l : List UInt8) : Prop := 8 ≤ l.length ∧ 0 ≤ rd l ∧ 16 * (rd l).toNat ≤ l.length - 8
def SeenL (w : World) (b g : Nat) (bl : Bool) (l : List UInt8) (e : Ending) (w' : World) : Prop :=
 (hasL l ∧ ∃ v, e = .returned v ∧ OwnL w' w.heap.size v (rdL l (rd l).toNat) ∧ EyeAt w' b g (l.drop (8 + 16 * (rd l).toNat)) bl ∧ Keeps (Only b) w w') ∨ (¬ hasL l ∧ Blinded w b g bl e w')
theorem stampsIn_any (w : World) (b g : Nat) (l : List UInt8) (bl : Bool) (he : EyeAt w b g l bl) (hlen : l.length ≤ 1000000) :
  Calls Tryz.prog 216 #[.pointer (some ⟨b, 0, none⟩)] w (SeenL w b g bl l) := by
 have HE := hI he
 clear he
 by_cases h8 : l.length < 8
 ·have HN : Hid (¬ hasL l) := fun h => by have := h.1; omega
  go_enter Tryz.func216, Tryz.ntmps216
  go_wp2_with (go_at_call 160; refine (int_no _ b g l bl HE.out h8).mono ?_; rintro e w1 ⟨rfl, he1, hk1⟩; have HE1 := hI he1; have HK1 := hI hk1; clear he1 hk1)
  exact ⟨rfl, .inr ⟨HN.out, rfl, HE1.out, HK1.out⟩⟩
 ·have h8' : 8 ≤ l.length := by omega
  clear h8
  by_cases h0 : rd l < 0
  ·have HN : Hid (¬ hasL l) := fun h => by have := h.2.1; omega
   go_enter Tryz.func216, Tryz.ntmps216
   go_wp2_with (go_at_call 160; refine (int_yes _ b g l bl HE.out h8').mono ?_; rintro e w1 ⟨rfl, he1, hk1⟩; have HE1 := hI he1; have HK1 := hI hk1; clear he1 hk1)
   exact ⟨rfl, .inr ⟨HN.out, rfl, ⟨_, HE1.out⟩, HK1.out⟩⟩
  ·obtain ⟨c, hc⟩ := Int.eq_ofNat_of_zero_le (a := rd l) (by omega)
   have HC := hI hc
   clear h0 hc
   go_enter Tryz.func216, Tryz.ntmps216
   go_wp2_with (go_at_call 160; refine (int_yes _ b g l bl HE.out h8').mono ?_; rintro e w1 ⟨rfl, he1, hk1⟩; have HE1 := hI he1; have HK1 := hI hk1; clear he1 hk1; rw [HC.out])
   go_loopw [4, 12] (fun v i wr => ∃ j : Nat, j ≤ c ∧ i = .int .i64 j ∧ 8 + 16 * j ≤ l.length ∧ OwnL wr w.heap.size v (rdL l j) ∧ EyeAt wr b g (l.drop (8 + 16 * j)) bl ∧ Keeps (Only b) w wr) (fun _ i _ => c - (RowKit.intOf i).toNat)
   case atStart => exact ⟨0, Nat.zero_le _, rfl, by omega, World.ownsRow_nil _ _ _ _, HE1.out, HK1.out⟩
   case round =>
    obtain ⟨j, hj, rfl, hjl, hown, hej, hkj⟩ := hrel
    have HO := hI hown
    have HEJ := hI hej
    have HKJ := hI hkj
    clear hown hej hkj
    by_cases hlt : j < c
    ·by_cases hfit : 8 + 16 * j + 16 ≤ l.length
     ·have HF : Hid (16 ≤ (l.drop (8 + 16 * j)).length) := by show _ ≤ _; rw [List.length_drop]; omega
      have HD : Hid ((l.drop (8 + 16 * j)).drop 16 = l.drop (8 + 16 * (j + 1))) := List.drop_drop
      have HBN : Hid (∀ x, w.heap.size ≤ x → ¬ Only b x) := fun x hx h => absurd HE.out.lt (by have h' : x = b := h; omega)
      have HLen : Hid ((rdL l j).length ≤ 400000) := by show _ ≤ _; rw [rdL_length]; omega
      go_wp2_with (first | (go_at_call 171; refine (stamp_yes _ b g _ bl HEJ.out HF.out).mono ?_; rintro e w2 ⟨rfl, he2, hk2⟩; have HO2 := hI (HO.out.keep hk2 HBN.out); have HE2 := hI he2; have HK2 := hI (HKJ.out.then hk2); clear he2 hk2) | (at_builtin; refine append_one rfl (.tmp 14) (.tmp 17) rfl w.heap.size _ (rdL l j) _ _ rfl HO2.out rfl rfl HLen.out HK2.out.size ?_; intro v3 w3 h1 h2; have HO3 := hI h1; have HK3 := hI h2; clear h1 h2))
      go_roundw
      case rel => exact ⟨j + 1, hlt, by go_num, by omega, by rw [rdL_succ]; unfold rdS; rw [List.drop_drop]; exact HO3.out, by rw [← HD.out]; exact HE2.out.keep HK3.out (fun h => HBN.out _ h rfl) (fun hne h => absurd (HE.out.lt2 (drop_ne (drop_ne hne))) (by omega)), HK2.out.trans HK3.out (fun x hx h => absurd h (by omega))⟩
      case measure => simp [RowKit.intOf]; omega
     ·have HF : Hid ((l.drop (8 + 16 * j)).length < 16) := by show _ < _; rw [List.length_drop]; omega
      have HN : Hid (¬ hasL l) := fun h => by have := h.2.2; rw [HC.out] at this; simp at this; omega
      go_wp2_with (go_at_call 171; refine (stamp_no _ b g _ bl HEJ.out HF.out).mono ?_; rintro e w2 ⟨rfl, he2, hk2⟩; have HE2 := hI he2; have HK2 := hI (HKJ.out.then hk2); clear he2 hk2)
      exact ⟨rfl, .inr ⟨HN.out, rfl, HE2.out, HK2.out⟩⟩
    ·obtain rfl : j = c := by omega
     have HY : Hid (hasL l) := ⟨h8', by rw [HC.out]; omega, by rw [HC.out]; simp; omega⟩
     have HT : Hid ((rd l).toNat = j) := by show _ = _; rw [HC.out]; rfl
     go_wp2
     go_ret
     exact .inl ⟨HY.out, _, rfl, by rw [HT.out]; exact HO.out, by rw [HT.out]; exact HEJ.out, HKJ.out⟩
end S2
end Go.Proofs.YtgipkikedacmdaaGreat
