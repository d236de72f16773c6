/- Contracts of the reference's Max, Has and After, and of own, which copies a list. Conditions: lists of at most a million stamps. -/
import Derived.Lib.SmallJoins
import Derived.Deep.Slices
import Derived.Deep.Fields
import Derived.Test.YtgipkikedacmdaaGreatMg12
import Derived.Test.YtgipkikedacmdaaGreatMg00
set_option maxRecDepth 100000
set_option maxHeartbeats 16000000
namespace Go.Proofs.YtgipkikedacmdaaGreat
namespace S1
open Go.ChangeShapes Go.WideShapes Go.ChangeAt Go.RowKit Go.Joins Go.Deep
theorem own0 : ownKnob Tryz.prog.godebug = none := by kernel_rfl
theorem laid0 : laidOutB Tryz.prog = true := by kernel_rfl
theorem cellsSt : Tryz.prog.cellsOf 23 = 2 := by kernel_rfl
section
variable {H : Type} {enc : TypeId × Value → H}
theorem open_stamp {r : Reach} {b0 : Nat} {w : World} {base : Nat} {sp : Nat → Bool} {hd : Bool} {v : Value} {d : DataW H} {p : List MemPlace} (hv : Value.okWide Tryz.prog w r b0 23 v) (h : DataW.Trod enc Tryz.prog w base sp hd 23 v d p) :
  ∃ t n : Int, v = .agg #[.int .i64 t, .int .i64 n] ∧ (Lit.int .i64 t).wf = true ∧ (Lit.int .i64 n).wf = true := by
 obtain ⟨c0, c1, y0, y1, m, rfl, rfl, rfl, hy0, hy1⟩ := open_agg2 Tryz.underlying23 (by kernel_rfl) cellsSt hv h
 obtain ⟨a, e0, rfl, wa⟩ := DataW.trod_int Tryz.underlying2 hy0
 obtain ⟨b, e1, rfl, wb⟩ := DataW.trod_int Tryz.underlying3 hy1
 simp at e0 e1
 subst e0 e1
 exact ⟨a, b, rfl, wa, wb⟩
end

theorem cells_i64 : Tryz.prog.cellsOf 2 = 1 := by kernel_rfl
theorem cells_int : Tryz.prog.cellsOf 3 = 1 := by kernel_rfl
section
variable {H : Type} {enc : TypeId × Value → H}
theorem stamps_cells {w : World} {cs : List Value} {fuel : Nat} {x : DataW H × List MemPlace} (hf' : DataW.trod enc Tryz.prog w 0 (fun _ => true) true fuel 80 cs = some x) :
  ∃ (a : Option Addr) (l : List (Int × Int)) (cap : Nat), cs = [.slice a l.length cap] ∧ SL w a l ∧ l.length ≤ 9223372036854775807 ∧ (a = none → cap = 0) ∧ (∀ b o, a = some ⟨b, o, none⟩ → l ≠ [] → b < w.heap.size) ∧ ∀ s ∈ l, (Lit.int .i64 s.1).wf = true ∧ (Lit.int .i64 s.2).wf = true := by
 rcases open_slice Tryz.underlying80 hf' with ⟨hcs, _⟩ | ⟨a, len, cap, m, n, D, Pl, hcs, _, hl, hm, hmm, hx, hi⟩
 ·subst hcs
  exact ⟨none, [], 0, rfl, fun h => absurd rfl h, by simp, fun _ => rfl, fun _ _ h => (by cases h), fun s hs => (by simp at hs)⟩
 ·subst hcs
  simp only [if_true] at hmm
  subst hmm
  have hone : ∀ i, i < len → ∃ q : Int × Int, w.cell? (a.add (i * 2)) = some (.int .i64 q.1) ∧ w.cell? ((a.add (i * 2)).add 1) = some (.int .i64 q.2) ∧ (Lit.int .i64 q.1).wf = true ∧ (Lit.int .i64 q.2).wf = true := by
   intro i hlt
   obtain ⟨cs', hc, ht⟩ := hi i (by omega)
   rw [cellsSt] at hc
   obtain ⟨_, hlen, hat⟩ := World.cells?_some hc
   match cs', hlen with
   | [c0, c1], _ =>
    obtain ⟨y0, y1, k, _, _, h0, h1⟩ := trod_struct2 Tryz.underlying23 ht
    have e0 : DataW.trod enc Tryz.prog w 0 (fun _ => true) true k 2 [c0] = some y0 := by simpa [cells_i64] using h0
    have e1 : DataW.trod enc Tryz.prog w 0 (fun _ => true) true k 3 [c1] = some y1 := by simpa [cells_int] using h1
    obtain ⟨x, hx0, _, wx⟩ := DataW.trod_int Tryz.underlying2 e0
    obtain ⟨y, hy0, _, wy⟩ := DataW.trod_int Tryz.underlying3 e1
    simp only [List.cons.injEq, and_true] at hx0 hy0
    subst hx0 hy0
    exact ⟨(x, y), by simpa [Addr.add] using hat 0 (by omega), hat 1 (by omega), wx, wy⟩
  obtain ⟨f, hf2⟩ : ∃ f : Nat → Int × Int, ∀ i, i < len → w.cell? (a.add (i * 2)) = some (.int .i64 (f i).1) ∧ w.cell? ((a.add (i * 2)).add 1) = some (.int .i64 (f i).2) ∧ (Lit.int .i64 (f i).1).wf = true ∧ (Lit.int .i64 (f i).2).wf = true :=
   ⟨fun i => if h : i < len then Classical.choose (hone i h) else (0, 0), fun i hlt => by simp only [hlt, dif_pos]; exact Classical.choose_spec (hone i hlt)⟩
  have hlen : ((List.range len).map f).length = len := by simp
  refine ⟨some a, (List.range len).map f, _, by rw [hlen], fun hne => ?_, by rw [hlen]; unfold maxLen at hm; omega, fun h => (by cases h), fun b o hb hne => ?_, fun s hs => ?_⟩
  ·have hpos : 0 < len := by
    rcases Nat.eq_zero_or_pos len with h | h
    ·subst h; simp at hne
    ·exact h
   have h00 := (hf2 0 hpos).1
   obtain ⟨b, off, spot⟩ := a
   have hspot : spot = none := by simpa [Addr.add] using World.cell?_spot h00
   subst hspot
   refine ⟨b, off, rfl, ?_, fun i x y hi' => ?_⟩
   ·simpa [Addr.add] using World.block_lt_of_cell? _ _ h00
   ·have hil : i < len := by
     have := (List.getElem?_eq_some_iff.1 hi').1
     simpa using this
    have hfi : f i = (x, y) := by simpa [List.getElem?_map, List.getElem?_range, hil] using hi'
    obtain ⟨g0, g1, _, _⟩ := hf2 i hil
    rw [hfi] at g0 g1
    rw [Go.WideShapes.add_plain] at g0
    rw [Go.WideShapes.add_plain, Go.WideShapes.add_plain] at g1
    exact ⟨g0, g1⟩
  ·have hpos : 0 < len := by
    rcases Nat.eq_zero_or_pos len with h | h
    ·subst h; simp at hne
    ·exact h
   have h00 := (hf2 0 hpos).1
   simp only [Option.some.injEq] at hb
   subst hb
   simpa [Addr.add] using World.block_lt_of_cell? _ _ h00
  ·obtain ⟨i, hi', rfl⟩ := List.mem_map.1 hs
   obtain ⟨_, _, w0, w1⟩ := hf2 i (List.mem_range.1 hi')
   exact ⟨w0, w1⟩
end
def cellsL (l : List (Int × Int)) : List Value := l.flatMap fun s => [.int .i64 s.1, .int .i64 s.2]
theorem cellsL_length (l : List (Int × Int)) : (cellsL l).length = l.length * 2 := by
 induction l with
 | nil => rfl
 | cons a r ih => simp [cellsL] at ih ⊢; omega
theorem cellsL_append (l r : List (Int × Int)) : cellsL (l ++ r) = cellsL l ++ cellsL r := by simp [cellsL]
theorem cellsL_at (l : List (Int × Int)) : ∀ (i : Nat) (x y : Int), l[i]? = some (x, y) → (cellsL l)[i * 2]? = some (.int .i64 x) ∧ (cellsL l)[i * 2 + 1]? = some (.int .i64 y) := by
 induction l with
 | nil => intro i x y h; simp at h
 | cons a r ih =>
  intro i x y h
  cases i with
  | zero =>
   simp only [List.getElem?_cons_zero, Option.some.injEq] at h
   subst h
   exact ⟨rfl, rfl⟩
  | succ i =>
   obtain ⟨h1, h2⟩ := ih i x y (by simpa using h)
   have e : cellsL (a :: r) = Value.int .i64 a.1 :: Value.int .i64 a.2 :: cellsL r := rfl
   rw [e, show (i + 1) * 2 = i * 2 + 1 + 1 by omega]
   simpa using ⟨h1, h2⟩
theorem cellsL_one (l : List (Int × Int)) : ∀ u ∈ cellsL l, u.oneCell' = true := by
 intro u hu
 obtain ⟨s, _, hs⟩ := List.mem_flatMap.1 hu
 simp only [List.mem_cons, List.not_mem_nil, or_false] at hs
 rcases hs with rfl | rfl <;> rfl
theorem Lst.cells {w : World} {b o : Nat} {l : List (Int × Int)} (h : Lst w b o l) : ∀ (j : Nat) (u : Value), (cellsL l)[j]? = some u → w.cell? ((⟨b, o, none⟩ : Addr).add j) = some u := by
 intro j u hj
 have hlt : j < l.length * 2 := by
  have := (List.getElem?_eq_some_iff.1 hj).1
  rwa [cellsL_length] at this
 obtain ⟨x, y, hxy⟩ := at_lt (l := l) (k := j / 2) (by omega)
 obtain ⟨c1, c2⟩ := cellsL_at l (j / 2) x y hxy
 obtain ⟨h1, h2⟩ := h (j / 2) x y hxy
 rw [Go.WideShapes.add_plain]
 rcases Nat.mod_two_eq_zero_or_one j with hm | hm
 ·have e : j / 2 * 2 = j := by omega
  rw [e] at c1 h1
  rw [h1, ← c1, hj]
 ·have e : j / 2 * 2 + 1 = j := by omega
  rw [e] at c2
  rw [show o + j / 2 * 2 + 1 = o + j by omega] at h2
  rw [h2, ← c2, hj]
def OwnL (w : World) (base : Nat) (v : Value) (l : List (Int × Int)) : Prop := w.ownsRow base 23 2 v l.length (cellsL l)
theorem OwnL.sl {w : World} {base : Nat} {v : Value} {l : List (Int × Int)} (h : OwnL w base v l) :
  ∃ a cap, v = .slice a l.length cap ∧ SL w a l ∧ (a = none → cap = 0) ∧ (∀ b o, a = some ⟨b, o, none⟩ → base ≤ b) ∧ l.length ≤ cap := by
 obtain ⟨h1, h2 | ⟨g, cap, cur, hv, hg, hh, hn, hm, hs, hx⟩⟩ := h
 ·obtain ⟨rfl, hl⟩ := h2
  obtain rfl := List.eq_nil_of_length_eq_zero hl
  exact ⟨none, 0, rfl, fun h => absurd rfl h, fun _ => rfl, fun _ _ h => (by cases h), Nat.le_refl _⟩
 ·refine ⟨_, cap, hv, fun _ => ⟨g, 0, rfl, lt_of_block hh, fun i x y hi => ?_⟩, fun h => (by cases h), fun b o hb => ?_, hn⟩
  ·have hil := (List.getElem?_eq_some_iff.1 hi).1
   obtain ⟨c1, c2⟩ := cellsL_at l i x y hi
   rw [← hx] at c1 c2
   rw [List.getElem?_take_of_lt (by omega)] at c1 c2
   simp only [World.cell?, hh]
   exact ⟨by simpa using c1, by simpa using c2⟩
  ·simp only [Option.some.injEq, Addr.mk.injEq] at hb
   omega
theorem info_st : (Tryz.prog.info? 23).map (fun i => (i.zero, i.size, i.bytes)) = some (some (.agg #[.int .i64 0, .int .i64 0]), 2, 16) := by kernel_rfl
theorem SL.nil_ok (w : World) (a : Option Addr) : SL w a [] := fun h => absurd rfl h
end S1
end Go.Proofs.YtgipkikedacmdaaGreat

namespace Go.Proofs.YtgipkikedacmdaaGreat
open Go.Lib renaming hid → hI
namespace S1
open Go.RowKit Go.Sort
theorem refmax_any (a : Option Addr) (cap : Nat) (l : List (Int × Int)) (w : World) (hlen : l.length ≤ 1000000) (hl : SL w a l) :
  Calls Tryz.prog 84 #[.slice a l.length cap] w fun e w' => e = .returned (.agg #[.int .i64 (maxL l).1, .int .i64 (maxL l).2]) ∧ Below w.heap.size w w' := by
 by_cases hne : l = []
 ·subst hne
  show Calls Tryz.prog 84 #[.slice a 0 cap] w fun e w' => e = .returned (.agg #[.int .i64 0, .int .i64 0]) ∧ Below w.heap.size w w'
  go_enter Tryz.func84, Tryz.ntmps84
  go_wp2
  exact bodyPost_ret (v := .agg #[.int .i64 0, .int .i64 0]) (by simp [results, Tryz.results84, go_sem]) rfl ⟨rfl, (Below.refl _ _).alloc (Nat.le_refl _) _⟩
 ·obtain ⟨b, o, rfl, hb, hl⟩ := hl hne
  have h0 : 0 < l.length := List.length_pos_iff.2 hne
  obtain ⟨x0, y0, h00⟩ := at_lt h0
  obtain ⟨hx0, hy0⟩ := hl 0 x0 y0 h00
  simp only [Nat.zero_mul, Nat.add_zero] at hx0 hy0
  have H00 := hI h00
  have HL := hI hl
  have hz : ((l.length : Int) == 0) = false := by simpa using hne
  clear h00 hl
  go_enter Tryz.func84, Tryz.ntmps84
  go_wp2
  have hB0 : Hid (Below w.heap.size w ((w.alloc (Obj.cells #[Value.int IntKind.i64 0, Value.int IntKind.i64 0] 23)).alloc (Obj.cells #[Value.int IntKind.i64 x0, Value.int IntKind.i64 y0] 23))) := ((Below.refl _ _).alloc (Nat.le_refl _) _).alloc (by simp) _
  have hR0 : Own2 ((w.alloc (Obj.cells #[Value.int IntKind.i64 0, Value.int IntKind.i64 0] 23)).alloc (Obj.cells #[Value.int IntKind.i64 x0, Value.int IntKind.i64 y0] 23)) w.heap.size 0 0 := own2_new0 _ _ _ _
  have hM0 : Own2 ((w.alloc (Obj.cells #[Value.int IntKind.i64 0, Value.int IntKind.i64 0] 23)).alloc (Obj.cells #[Value.int IntKind.i64 x0, Value.int IntKind.i64 y0] 23)) (w.heap.size + 1) x0 y0 := own2_new1 _ _ _ _
  generalize (w.alloc (Obj.cells #[Value.int IntKind.i64 0, Value.int IntKind.i64 0] 23)).alloc (Obj.cells #[Value.int IntKind.i64 x0, Value.int IntKind.i64 y0] 23) = W at *
  go_loopw [4] (fun i wr => ∃ k : Nat, 1 ≤ k ∧ k ≤ l.length ∧ i = .int .i64 k ∧ Below w.heap.size w wr ∧ Own2 wr w.heap.size 0 0 ∧ Own2 wr (w.heap.size + 1) (maxL (l.take k)).1 (maxL (l.take k)).2) (fun i _ => l.length - (RowKit.intOf i).toNat)
  case atStart => exact ⟨1, Nat.le_refl _, h0, rfl, hB0.out, hR0, by rw [maxL_one l _ H00.out]; exact hM0⟩
  case round =>
   obtain ⟨k, hk1, hk, rfl, hbel, hR, hM⟩ := hrel
   have HB := hI hbel
   clear hR0 hM0
   obtain ⟨mx, my, hm⟩ : ∃ mx my, maxL (l.take k) = (mx, my) := ⟨_, _, rfl⟩
   rw [hm] at hM
   have HMX := hI hm
   clear hm
   have hr0 := hR.c0
   have hr1 := hR.c1
   have hrf0 := hR.f0
   have hrf1 := hR.f1
   have hm0 := hM.c0
   have hm1 := hM.c1
   have hmf0 := hM.f0
   have hmf1 := hM.f1
   have hsz : w.heap.size + 1 < wr.heap.size := hM.lt
   have hsz0 : w.heap.size < wr.heap.size := hR.lt
   have hbw : b < wr.heap.size := Nat.lt_of_lt_of_le hb hbel.size
   have HR := hI hR
   have HM := hI hM
   clear hR hM
   by_cases hlt : k < l.length
   ·obtain ⟨x, y, hxy⟩ := at_lt hlt
    obtain ⟨hx, hy⟩ := HL.out.later hb hbel k x y hxy
    have HXY := hI hxy
    clear hxy hbel
    cases hgt : ltS (mx, my) (x, y)
    ·have HGT := hI hgt
     clear hgt
     go_wp2_with fail
     refine region_aft (by kernel_rfl) (by kernel_rfl) ?_
     repeat (go_big_quiet_step (first | (go_at_call 28; exact aft_grown ((less_any _ _ _ _ _).mono fun e w' h => by rw [HGT.out] at h; exact h))))
     refine wpQuiet_nil ?_
     rintro w2 ⟨z, rfl⟩
     go_wp2
     go_roundw
     case rel => exact ⟨k + 1, by omega, hlt, by go_num, blThen HB.out z.h, HR.out.later z.h (by omega), by
      rw [maxL_take l k _ hk1 HXY.out, HMX.out, stepM, if_neg (by rw [HGT.out]; simp)]
      exact HM.out.later z.h (by omega)⟩
     case measure => simp [RowKit.intOf]; omega
    ·have HGT := hI hgt
     clear hgt
     go_wp2_with fail
     refine region_aft (by kernel_rfl) (by kernel_rfl) ?_
     repeat (go_big_quiet_step (first | (go_at_call 28; exact aft_grown ((less_any _ _ _ _ _).mono fun e w' h => by rw [HGT.out] at h; exact h))))
     refine wpQuiet_nil ?_
     rintro w2 ⟨z, rfl⟩
     go_wp2
     go_roundw
     case rel => exact ⟨k + 1, by omega, hlt, by go_num, ((blThen HB.out z.h).setCell (by simp) _).setCell (by simp) _, ((HR.out.later z.h (by omega)).set_other (by simp) _).set_other (by simp) _, by
      rw [maxL_take l k _ hk1 HXY.out, HMX.out, stepM, if_pos HGT.out]
      exact (HM.out.later z.h (by omega)).set _ _⟩
     case measure => simp [RowKit.intOf]; omega
   ·have hfin : maxL l = (mx, my) := by
     have := HMX.out
     rwa [List.take_of_length_le (by omega)] at this
    have HF := hI hfin
    clear hfin hbel
    have e0 := (HR.out.set mx my).c0
    have e1 := (HR.out.set mx my).c1
    go_wp2
    exact bodyPost_ret (v := .agg #[.int .i64 mx, .int .i64 my]) (by simp [results, Tryz.results84, go_sem, e0, e1]) rfl ⟨by rw [HF.out], (HB.out.setCell (by simp) _).setCell (by simp) _⟩
def RetL (w : World) (l : List (Int × Int)) (e : Ending) (w' : World) : Prop := ∃ a cap, e = .returned (.slice a l.length cap) ∧ SL w' a l ∧ (a = none → cap = 0) ∧ (∀ b o, a = some ⟨b, o, none⟩ → w.heap.size ≤ b) ∧ Below w.heap.size w w'
theorem src_of {w : World} {a : Option Addr} {l : List (Int × Int)} (hl : SL w a l) : a = none ∨ ∃ ad, a = some ad ∧ ∀ (W : World), Below w.heap.size w W → ∀ (j : Nat) (u : Value), (cellsL l)[j]? = some u → W.cell? (ad.add j) = some u := by
 cases a with
 | none => exact .inl rfl
 | some ad =>
  refine .inr ⟨ad, rfl, fun W hW j u hj => ?_⟩
  have hne : l ≠ [] := by rintro rfl; simp [cellsL] at hj
  obtain ⟨b, o, he, hb, hlst⟩ := hl hne
  simp only [Option.some.injEq] at he
  subst he
  exact (hlst.later hb hW).cells j u hj
theorem own_empty (w : World) : (w.alloc (.cells #[] 23)).ownsRow w.heap.size 23 2 (.slice (some ⟨w.heap.size, 0, none⟩) 0 0) 0 [] := by
 refine ⟨rfl, .inr ⟨w.heap.size, 0, #[], rfl, Nat.le_refl _, ?_, Nat.le_refl _, Nat.zero_le _, rfl, rfl⟩⟩
 show (w.heap.push _)[w.heap.size]? = _
 simp
end S1
end Go.Proofs.YtgipkikedacmdaaGreat
