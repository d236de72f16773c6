/- What nodes tell, in memory; the small functions and the closures of package choose. Conditions: what is told hangs on nothing, and holds no value. -/
import Derived.Deep.DeepCutAuto
import Derived.Deep.RegionHeld3
import Derived.WalkSpells
import Derived.Test.YtpdfcojcmhadnaaGreatMg47
import Derived.Test.YtpdfcojcmhadnaaGreatMg19
import Derived.Test.YtpdfcojcmhadnaaGreatMg04
import Derived.Test.YtpdfcojcmhadnaaGreatMg43
import Derived.Test.YtpdfcojcmhadnaaGreatMg41
import Derived.Test.YtpdfcojcmhadnaaGreatMg00
set_option maxRecDepth 100000
set_option maxHeartbeats 16000000
set_option linter.unusedVariables false
set_option linter.unusedSimpArgs false
namespace Go.Proofs.YtpdfcojcmhadnaaGreat
open S3 SC SN SP
namespace SB
open Go.ChangeShapes Go.WideShapes Go.ChangeAt Go.RowKit Go.Joins Go.Deep
structure Td where
 n : Int
 a : Option Addr
 k : Nat
 c : Nat
 v : Int × Int
 f : Bool
def tV (x : Td) : Array Value := #[.int .i64 x.n, .slice x.a x.k x.c, .int .i64 x.v.1, .int .i64 x.v.2, .bool x.f, .slice none 0 0, .bool false, .int .i64 0, .int .i64 0, .bool false, .int .i64 0, .int .i64 0, .slice none 0 0]
def eT : Enc Td := ⟨fun x => (tV x).toList, 13, fun _ => rfl, fun x => List.all_eq_true.1 (by rfl), by decide⟩
theorem szT : (Tryz.prog.info? 40).map (·.size) = some 13 := by kernel_rfl
def firstB (x : Td) (id : Int × Int) : Bool := x.f && decide (x.v = id)
theorem row_upB {w w' : World} {b : Nat} {o : Obj} (k : Hid (w.heap[b]? = some o)) (l : Hid (b < w.heap.size)) (h5 : Below w.heap.size w w') : Hid (w'.heap[b]? = some o) := (h5.block b l.out).trans k.out
theorem lt_upB {w w' : World} {b : Nat} (l : Hid (b < w.heap.size)) (h5 : Below w.heap.size w w') : Hid (b < w'.heap.size) := Nat.lt_of_lt_of_le l.out h5.size
theorem new_blockB (w : World) (c : Array Value) (T : TypeId) : (w.alloc (.cells c T)).heap[w.heap.size]? = some (.cells c T (0, 0)) := by
 show (w.heap.push _)[w.heap.size]? = _
 rw [Array.getElem?_push_size]
theorem nth_boxB (W : World) : ∀ (os : List Obj) (i : Nat) (o : Obj), os[i]? = some o → (os.foldl World.alloc W).heap[W.heap.size + i]? = some o ∧ W.heap.size + os.length = (os.foldl World.alloc W).heap.size := by
 intro os
 induction os generalizing W with
 | nil => intro i o h; simp at h
 | cons x r ih =>
  intro i o h
  have hs : (W.alloc x).heap.size = W.heap.size + 1 := by simp
  have hsz : ∀ (r : List Obj) (V : World), (r.foldl World.alloc V).heap.size = V.heap.size + r.length := by
   intro r
   induction r with
   | nil => intro V; rfl
   | cons y r ih2 => intro V; rw [List.foldl_cons, ih2]; simp; omega
  have hk : ∀ (r : List Obj) (V : World) (k : Nat), k < V.heap.size → (r.foldl World.alloc V).heap[k]? = V.heap[k]? := by
   intro r
   induction r with
   | nil => intro V k _; rfl
   | cons y r ih2 =>
    intro V k hk
    rw [List.foldl_cons, ih2 _ _ (by simp; omega)]
    show (V.heap.push y)[k]? = _
    rw [Array.getElem?_push, if_neg (by omega)]
  refine ⟨?_, by rw [hsz]⟩
  rw [List.foldl_cons]
  cases i with
  | zero =>
   simp only [List.getElem?_cons_zero, Option.some.injEq] at h
   subst h
   rw [Nat.add_zero, hk _ _ _ (by rw [hs]; omega)]
   show (W.heap.push _)[W.heap.size]? = _
   rw [Array.getElem?_push_size]
  | succ i =>
   rw [List.getElem?_cons_succ] at h
   have := (ih (W.alloc x) i o h).1
   rw [hs] at this
   rw [← this]
   congr 1
   omega
theorem box1B (W : World) (a : Obj) : ∃ w0 : World, w0 = W.alloc a ∧ Hid (W.heap.size + 1 = w0.heap.size) ∧ Hid (w0.heap[W.heap.size]? = some a) ∧ Hid (Below W.heap.size W w0) :=
 ⟨W.alloc a, rfl, (nth_boxB W [a] 0 a rfl).2, (nth_boxB W [a] 0 a rfl).1, blAlloc (Below.refl _ _) _⟩
theorem box2B (W : World) (a b : Obj) : ∃ w0 : World, w0 = (W.alloc a).alloc b ∧ Hid (W.heap.size + 2 = w0.heap.size) ∧ Hid (w0.heap[W.heap.size]? = some a) ∧ Hid (w0.heap[W.heap.size + 1]? = some b) ∧ Hid (Below W.heap.size W w0) :=
 ⟨(W.alloc a).alloc b, rfl, (nth_boxB W [a, b] 0 a rfl).2, (nth_boxB W [a, b] 0 a rfl).1, (nth_boxB W [a, b] 1 b rfl).1, blAlloc (blAlloc (Below.refl _ _) _) _⟩
theorem box3B (W : World) (a b c : Obj) : ∃ w0 : World, w0 = ((W.alloc a).alloc b).alloc c ∧ Hid (W.heap.size + 3 = w0.heap.size) ∧ Hid (w0.heap[W.heap.size]? = some a) ∧ Hid (w0.heap[W.heap.size + 1]? = some b) ∧ Hid (w0.heap[W.heap.size + 1 + 1]? = some c) ∧ Hid (Below W.heap.size W w0) :=
 ⟨((W.alloc a).alloc b).alloc c, rfl, (nth_boxB W [a, b, c] 0 a rfl).2, (nth_boxB W [a, b, c] 0 a rfl).1, (nth_boxB W [a, b, c] 1 b rfl).1, (nth_boxB W [a, b, c] 2 c rfl).1, blAlloc (blAlloc (blAlloc (Below.refl _ _) _) _) _⟩
theorem below_grownB {w x y : World} {k : Nat} (h : Below w.heap.size w x) (hg : x.grownBy y (some k)) (hk : w.heap.size ≤ k) : Below w.heap.size w y := h.grown hg h.size (fun j hj => by cases hj; exact hk)
theorem grown_otherB {x y : World} {g k : Nat} {o : Obj} (h : Hid (x.heap[k]? = some o)) (hg : x.grownBy y (some g)) (hk : k < x.heap.size) (hne : k ≠ g) : Hid (y.heap[k]? = some o) := (hg.block k hk (by intro e; have := Option.some.inj e; omega)).trans h.out
theorem szStpB : (Tryz.prog.info? 24).map (·.size) = some 2 := by kernel_rfl
theorem isFirst_any (x : Td) (i1 i2 : Int) (w : World) : Calls Tryz.prog 54 #[.agg (tV x), .agg #[.int .i64 i1, .int .i64 i2]] w fun e w' => e = .returned (.bool (firstB x (i1, i2))) ∧ Below w.heap.size w w' := by
 obtain ⟨n, a, k, c, ⟨v1, v2⟩, f⟩ := x
 have HE : Hid (firstB ⟨n, a, k, c, (v1, v2), f⟩ (i1, i2) = (f && (decide (v1 = i1) && decide (v2 = i2)))) := by
  show _ = _
  simp [firstB, Bool.decide_and]
 rw [HE.out]
 unfold tV
 dsimp only
 go_enter Tryz.func54, Tryz.ntmps54
 cases f
 ·go_wp2
  go_ret
  exact ⟨rfl, blAlloc (blAlloc (Below.refl _ _) _) _⟩
 ·cases h1 : decide (v1 = i1) <;> cases h2 : decide (v2 = i2) <;> simp only [decide_eq_true_eq, decide_eq_false_iff_not] at h1 h2 <;> (try subst h1) <;> (try subst h2) <;> go_wp2 <;> go_ret <;> exact ⟨rfl, blAlloc (blAlloc (Below.refl _ _) _) _⟩
theorem knows_any (x : Td) (w : World) : Calls Tryz.prog 29 #[.agg (tV x)] w fun e w' => e = .returned (.bool (decide (0 < x.k))) ∧ Below w.heap.size w w' := by
 obtain ⟨n, a, k, c, ⟨v1, v2⟩, f⟩ := x
 unfold tV
 dsimp only
 go_enter Tryz.func29, Tryz.ntmps29
 go_wp2
 go_ret
 exact ⟨rfl, blAlloc (Below.refl _ _) _⟩
theorem holds_any (x : Td) (w : World) : Calls Tryz.prog 30 #[.agg (tV x)] w fun e w' => e = .returned (.bool false) ∧ Below w.heap.size w w' := by
 obtain ⟨n, a, k, c, ⟨v1, v2⟩, f⟩ := x
 unfold tV
 dsimp only
 go_enter Tryz.func30, Tryz.ntmps30
 go_wp2
 go_ret
 exact ⟨rfl, blAlloc (Below.refl _ _) _⟩
theorem vote_any (x : Td) (W : World) : Calls Tryz.prog 42 #[.agg (tV x)] W fun e w' => e = .returned (.agg #[.int .i64 x.v.1, .int .i64 x.v.2]) ∧ Below W.heap.size W w' := by
 obtain ⟨w0, he0, HS0, K0, K1, HB0⟩ := box2B W (.cells (tV x) 40) (.cells #[.int .i64 0, .int .i64 0] 24)
 obtain ⟨n, a, k, c, ⟨v1, v2⟩, f⟩ := x
 unfold tV at *
 dsimp only at *
 go_enter Tryz.func42, Tryz.ntmps42
 go_upto_region 1 with fail
 rw [← he0]
 clear he0
 go_wp2_with (first | go_skip | ((with_reducible refine atW w0 ?_); refine wpList_load_part _ _ rfl (by rfl) _ 2 rfl K0.out Tryz.underlying24 rfl #[.int .i64 v1, .int .i64 v2] (by kernel_rfl) (two_at rfl rfl) ?_) | ((with_reducible refine atW w0 ?_); refine wpList_store_part _ _ _ rfl (by rfl) _ 0 rfl rfl (cs := #[.int .i64 v1, .int .i64 v2]) rfl K1.out (by kernel_rfl) (by simp) (by simp [Value.oneCell']) (D := #[.int .i64 v1, .int .i64 v2]) rfl ?_; intro w2 h1 h2; have K2 := Lib.hid h1; have HB2 : Hid (Below W.heap.size W w2) := Lib.hid (below_grownB HB0.out h2 (by omega)); clear h1 h2))
 refine bodyPost_ret (results_cell_row Tryz.results42 _ _ _ 24 _ (0, 0) _ rfl K2.out Tryz.underlying24 rfl szStpB) rfl ?_
 exact ⟨rfl, HB2.out⟩
def keepB (l : List S4.Sh) (p : Int) (x : Td) : Bool := S4.nodeB x.n && S4.anyHas l [p] x.n
theorem keeps1_any (x : Td) (a : Option Addr) (c : Nat) (l : List S4.Sh) (p : Int) (bt bp : Nat) (w : World) (hlen : l.length ≤ 1000000) (hn5 : ∀ s ∈ l, s.nodes.length ≤ 1000000) (ha : S4.Hl w a l) (hbt : bt < w.heap.size) (hbp : bp < w.heap.size) (ht : w.cell? ⟨bt, 0, none⟩ = some (.slice a l.length c)) (hp : w.cell? ⟨bp, 0, none⟩ = some (.int .i64 p)) :
  Calls Tryz.prog 50 #[.agg (tV x), .pointer (some ⟨bt, 0, none⟩), .pointer (some ⟨bp, 0, none⟩)] w fun e w' => e = .returned (.bool (keepB l p x)) ∧ Below w.heap.size w w' := by
 obtain ⟨w0, he0, HS0, K0, HB0⟩ := box1B w (.cells (tV x) 40)
 have HA := Lib.hid (ha.later HB0.out)
 have ht0 := cell_in HB0.out hbt ht
 have hp0 := cell_in HB0.out hbp hp
 have hbt0 := Nat.lt_of_lt_of_le hbt HB0.out.size
 have hbp0 := Nat.lt_of_lt_of_le hbp HB0.out.size
 clear ha ht hp
 obtain ⟨n, oa, k, oc, ⟨v1, v2⟩, f⟩ := x
 unfold tV keepB at *
 dsimp only at *
 go_enter Tryz.func50, Tryz.ntmps50
 go_upto_region 1 with fail
 rw [← he0]
 clear he0
 go_wp2_with (first | go_skip | ((with_reducible refine atW w0 ?_); refine wpList_load_one _ _ rfl (by rfl) _ 0 rfl K0.out Tryz.underlying3 rfl rfl ?_) | (go_at_call 51; go_must (refine (S4.keeps_any a c l n (some _) 1 [p] _ hlen (by simp) hn5 (HA.out.later (blAlloc (Below.refl _ _) _)) (S4.one_newI _ _ _ rfl)).mono ?_; rintro e w1 ⟨rfl, hb⟩; have HB : Hid (Below w.heap.size w w1) := Lib.hid (blThen (blAlloc HB0.out _) hb); clear hb)))
 go_ret
 exact ⟨rfl, HB.out⟩
end SB
end Go.Proofs.YtpdfcojcmhadnaaGreat
