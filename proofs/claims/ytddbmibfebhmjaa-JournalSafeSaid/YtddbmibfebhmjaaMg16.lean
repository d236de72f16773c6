/- What an iterator over numbers gives, collected: the list of just these numbers, in their order, in a block of the call's own; slices.Values of a list gives just its numbers. Conditions: lists of at most four million numbers. -/
import Derived.Maps.AppendAt
import Derived.Shelf.Abstract
import Derived.Test.YtddbmibfebhmjaaMg13
import Derived.Test.YtddbmibfebhmjaaMg14
set_option maxRecDepth 100000
set_option maxHeartbeats 16000000
set_option linter.unusedVariables false
namespace Go.Proofs.Ytddbmibfebhmjaa
open S3 S4
namespace S5
open Go.RowKit Go.Sort Go.Shelf
attribute [local go_sem] Oper.semAt_some
theorem cells1_new (X : World) (x : Int) : ∀ (j : Nat) (u : Value), (cellsI [x])[j]? = some u → (X.alloc (.cells #[.int .i64 x] 3)).cell? ((⟨X.heap.size, 0, none⟩ : Addr).add j) = some u := by
 have h := one_newI X x X.heap.size rfl
 obtain ⟨g, o, ha, _, hrow⟩ := h.2 (by simp)
 simp only [Option.some.injEq, Addr.mk.injEq, and_true] at ha
 obtain ⟨rfl, rfl⟩ := ha
 exact hrow.cells
def apActI (g : Nat) (lb : Array Value) (Bs : Nat) (x : Int) : Act := { tmps := #[.slice none 0 0, .func (.func g) #[] lb, .pointer (some ⟨Bs, 0, none⟩), undef, .slice none 0 0, .int .i64 x, .func (.func g) #[] lb, .int .i64 x, undef, undef, undef, undef, undef], defers := [] }
theorem appendSeqI_any (Kp : World → World → Prop) (g : Nat) (lb : Array Value) (eg : ∀ args w, (callFunc g args).run Try.prog w = .ok (.enter g args) w) (S Sx : List Int → Prop) (N : Nat) (hN : N ≤ 4000000) (w : World)
  (hKt : ∀ {A B C : World}, Kp A B → Kp B C → Kp A C)
  (hKb : ∀ (w2 : World), w.heap.size ≤ w2.heap.size → ∀ (W : World) (l : Nat) (o o' : Obj), w2.heap.size ≤ l → W.heap[l]? = some o → o.isCells = false → o.isWalk = false → Kp W (W.putObj l o'))
  (hKp : ∀ W W', KeepsOthers W W' → Below w.heap.size W W' → Kp W W')
  (hseq : ∀ (n : Nat) (w' : World), 1 ≤ n → Below w.heap.size w w' → SeqStopsK Fence.wide n Try.prog g lb (fun s : Int => #[.int .i64 s]) Kp S Sx N w') :
  Calls Try.prog 86 #[.slice none 0 0, .func (.func g) #[] lb] w fun e w' => ∃ v r, e = .returned v ∧ S r ∧ OwnI w' w.heap.size v r ∧ Below w.heap.size w w' := by
 refine (callsIn_wide (n := 9)).1 ?_
 obtain ⟨i0, hi, hz0, hz1, hz2⟩ := info_parts info_int
 have HI := Lib.hid hi
 have HZ0 := Lib.hid hz0
 have HZ1 := Lib.hid hz1
 have HZ2 := Lib.hid hz2
 have HSEQ := Lib.hid hseq
 have HKP := Lib.hid hKp
 have HKB := Lib.hid hKb
 have hN0 : ∀ k : Nat, k < N → k + 1 ≤ maxLen ∧ (k + 1) * 8 ≤ 140737488355328 := fun k hk => ⟨by unfold maxLen; omega, by omega⟩
 have HN := Lib.hid hN0
 clear hi hz0 hz1 hz2 hseq hN0 hKp hKb
 refine callsIn_of_wp_marks Try.func86 rfl trivial ?_ rfl
 simp only [Try.ntmps86, List.size_toArray, List.length_cons, List.length_nil, Nat.reduceAdd, Nat.reduceSub, Array.replicate_succ, Array.replicate_zero, List.push_toArray, List.append_toArray, List.nil_append, List.cons_append]
 gi_wp2
 have hB0 : Below w.heap.size w (w.alloc (.cells #[.slice none 0 0] 67)) := (Below.refl _ w).alloc (Nat.le_refl _) _
 refine wpIn_rangeFunc_ownH rfl (by omega) (gf := g) (lb := lb) rfl trivial eg (HSEQ.out _ _ (by omega) hB0) hKt (HKB.out _ (by simp)) (Below.refl _ _) (fun _ => rfl)
  (fun pre W => (∃ v, Boxed W w.heap.size 67 v ∧ W.ownsRow w.heap.size 3 1 v pre.length (cellsI pre) ∧ True) ∧ Below w.heap.size w W)
  (fun _ _ _ => False)
  (OwnFrom.and (Own.from (holdsRow_own w.heap.size w.heap.size 67 3 1 (fun pre => pre.length) (fun pre => cellsI pre) (fun _ _ => True)) _) (ownFrom_below (Nat.le_refl _) (by simp)))
  (fun _ _ _ _ _ hs _ _ => hs)
  ⟨⟨_, Boxed.new _ _ _, World.ownsRow_nil _ _ _ _, trivial⟩, hB0⟩
  (fun x a' W => a' = apActI g lb w.heap.size x)
  (fun x a' s X Y row hs hg hr => hs) ?assign ?body ?done ?stop
 case assign =>
  rintro l pre x W K hi hK
  gi_wp2
  obtain ⟨⟨v, hv, hrow, _⟩, hB⟩ := hi
  exact hK _ _ ((KeepsOthers.refl W).from _) (HKP.out _ _ (KeepsOthers.refl W) (Below.refl _ W)) ⟨⟨v, hv, hrow, trivial⟩, hB⟩ rfl
 case body =>
  rintro l pre x a' W hl ⟨rr, hr⟩ ⟨⟨v, hv, hrow, _⟩, hB⟩ rfl hlt
  have hvc := hv.cell
  have hvf := hv.frozen
  have hvl := hv.lt
  have hbn := cells1_new W x
  have HBN := Lib.hid hbn
  have HR := Lib.hid hr
  clear hbn hr
  unfold apActI
  gi_wp2_with (gi_at_builtin; refine wpListIn_append_own _ rfl _ _ 67 rfl w.heap.size 3 i0 (.int .i64 0) 1 8 Try.underlying67 HI.out HZ0.out HZ1.out HZ2.out rfl (by decide) _ _ _ rfl (hrow.alloc _) ⟨W.heap.size, 0, none⟩ 1 1 (cellsI [x]) rfl rfl HBN.out (cellsI_one [x]) (HN.out _ hlt).1 (HN.out _ hlt).2 (by have := hB.size; simp; omega) ?_; intro v' w1 hown' hgrow _; obtain ⟨g', cap', rfl⟩ := ownsRow_succ hown'; obtain ⟨hv1, hv2, hr2, hk2, hb2⟩ := hv.appended (by decide) hrow hB.size (Nat.le_refl _) hown' hgrow; have hc1 := hv1.cell; have hf1 := hv1.frozen)
  exact ⟨hk2.from _, HKP.out _ _ hk2 hb2, ⟨⟨_, hv2, by simpa [cellsI] using hr2, trivial⟩, hB.trans hb2⟩⟩
 case done =>
  rintro D ys W hD hS ⟨⟨v, hv, hrow, _⟩, hB⟩ hK
  have hc := hv.cell
  have hl := hv.lt
  gi_wp2
  refine ⟨by simp, .inl ⟨_, _, rfl, run_takeDeferred hK, ?_⟩⟩
  exact ⟨_, results_tmp rfl _ _ _, v, ys, rfl, hS, ownsRow_putObj hrow _ hK rfl, hB.trans (belowK_b (w := w) (Nat.le_refl _) W D _ _ (by simp at hD; omega) hK rfl rfl)⟩
 case stop =>
  rintro D c pre W _ _ h _
  exact h.elim
end S5
end Go.Proofs.Ytddbmibfebhmjaa
