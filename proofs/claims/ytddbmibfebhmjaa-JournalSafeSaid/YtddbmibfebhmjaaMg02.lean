/- A pen in memory, and the contracts of (*Pen).number and (*Pen).letters. Conditions: at most 2^40 bytes are laid. -/
import Derived.Deep.RegionLaw
import Derived.IntWalk
import Derived.LoopTactic
import Derived.Outline
import Derived.Test.YtddbmibfebhmjaaMg01
set_option maxRecDepth 100000
set_option maxHeartbeats 16000000
namespace Go.Proofs.Ytddbmibfebhmjaa
namespace S2
open Go.RowKit
def low (n : Nat) (k : Nat) : List UInt8 := (List.range k).map fun i => UInt8.ofNat (n >>> (8 * i))
theorem low_length (n k : Nat) : (low n k).length = k := by simp [low]
theorem low_succ (n k : Nat) : low n (k + 1) = low n k ++ [UInt8.ofNat (n >>> (8 * k))] := by simp [low, List.range_succ]
theorem low_zero (n : Nat) : low n 0 = [] := rfl
def PenAt (w : World) (b : Nat) (r : Option Nat) (l : List UInt8) : Prop := ∃ v T, w.heap[b]? = some (.cells #[v] T (0, 0)) ∧ Row w r v l ∧ r ≠ some b
theorem PenAt.lt {w : World} {b : Nat} {r : Option Nat} {l : List UInt8} (h : PenAt w b r l) : b < w.heap.size := by
 obtain ⟨_, _, h, _⟩ := h
 exact lt_of_block h
theorem PenAt.keep {S : Nat → Prop} {w w' : World} {b : Nat} {r : Option Nat} {l : List UInt8} (h : PenAt w b r l) (k : Keeps S w w') (hb : ¬ S b) (hr : ∀ x, r = some x → ¬ S x) : PenAt w' b r l := by
 obtain ⟨v, T, h1, h2, h3⟩ := h
 exact ⟨v, T, (k.block b (lt_of_block h1) hb).trans h1, h2.keep k hr, h3⟩
theorem pen_new (w : World) : PenAt (w.alloc (.cells #[.slice none 0 0] 113)) w.heap.size none [] := ⟨_, _, heap_alloc_new w _, Row.nil _, by simp⟩
def PenS (b : Nat) (r : Option Nat) (x : Nat) : Prop := x = b ∨ r = some x
structure PenStep (b : Nat) (r r' : Option Nat) (w w' : World) : Prop where
 keeps : Keeps (PenS b r) w w'
 row : r' = r ∨ New w r'
theorem PenStep.refl (b : Nat) (r : Option Nat) (w : World) : PenStep b r r w w := ⟨Keeps.refl _ _, .inl rfl⟩
theorem PenStep.trans {b : Nat} {r r' r'' : Option Nat} {u v w : World} (h : PenStep b r r' u v) (k : PenStep b r' r'' v w) : PenStep b r r'' u w := by
 refine ⟨h.keeps.trans k.keeps fun x hx hs => ?_, ?_⟩
 ·rcases hs with rfl | hs
  ·exact .inl rfl
  ·rcases h.row with e | e
   ·exact .inr (by rw [← e]; exact hs)
   ·exact absurd (e x hs) (by omega)
 ·rcases k.row with e | e
  ·rw [e]; exact h.row
  ·exact .inr (e.later h.keeps)
def Laid (w : World) (b : Nat) (r : Option Nat) (l : List UInt8) (e : Ending) (w' : World) : Prop := e = .returned (.tuple #[]) ∧ ∃ r', PenAt w' b r' l ∧ PenStep b r r' w w'
theorem step_app {ops : Array Oper} {o : Oper} {a : Act} {w : World} {K : Act → World → Prop} {Q : Exit → Act → World → Prop} {E : Prop} (hg : o.guard = none) (s x : Operand) (tx : TypeId)
  (ho : o.op = .call { callee := .builtin .append, args := #[s, x], argTypes := #[39, tx] }) (w0 : World) {S : Nat → Prop} {g : Option Nat} {v xv : Value} {l m : List UInt8} (hs : a.eval s = v) (hx : a.eval x = xv)
  (hrow : Row w0 g v l) (hk : Keeps S w0 w) (hS : ∀ x, g = some x → ¬ S x) (hsrc : Src Try.prog 1 tx xv m.length (bvs m) w) (hlen : l.length + m.length ≤ 1099511627776)
  (h : ∀ v' w' g', Row w' g' v' (l ++ m) → w.grownBy w' g → (g' = g ∨ New w g') → K (a.put o.dst v') w') :
  if Region.wanted o (yielded ops a.tmps) = true then Oper.wp Try.prog o a w K Q else E := by
 have hw : Region.wanted o (yielded ops a.tmps) = true := by simp [Region.wanted, hg]
 rw [if_pos hw]
 obtain ⟨v', w', g', hrun, h1, h2, h3⟩ := app_run (hrow.keep hk hS) hsrc hlen o.type
 unfold Oper.wp
 simp [execOp, ho, resolve, invoke, builtin, hs, hx, hrun, Result.andThen]
 exact h v' w' g' h1 h2 h3
theorem kAlloc {S : Nat → Prop} {w x : World} (h : Keeps S w x) (ob : Obj) : Keeps S w (x.alloc ob) := h.then (Keeps.alloc _ _ _)
theorem kDrew {S : Nat → Prop} {w x : World} (h : Keeps S w x) : Keeps S w x.drew := h.then (Keeps.drew _ _)
theorem kSet {S : Nat → Prop} {w x : World} (h : Keeps S w x) {p : Addr} (hp : S p.block ∨ w.heap.size ≤ p.block) (u : Value) : Keeps S w (x.setCell p u) :=
 h.trans (Keeps.setCell (S := fun k => k = p.block) (fun _ => rfl) u) fun k hk e => by
  subst e
  rcases hp with hp | hp
  ·exact hp
  ·omega
theorem kGrown {S : Nat → Prop} {w x y : World} {g : Option Nat} (h : Keeps S w x) (k : x.grownBy y g) (hg : ∀ k, g = some k → S k ∨ w.heap.size ≤ k) : Keeps S w y :=
 h.trans (Keeps.grown (S := fun k => g = some k) k fun _ _ e => e) fun k hk e => by
  rcases hg k e with h | h
  ·exact h
  ·omega
theorem shr_val (n : Int) (h0 : 0 ≤ n) (j : Nat) (hj : j < 8) : Op.shift .shr .u64 n .i64 (IntKind.i64.wrap (8 * (j : Int))) = pure (.int .u64 ((n.toNat >>> (8 * j) : Nat) : Int)) := by
 obtain ⟨m, rfl⟩ := Int.eq_ofNat_of_zero_le h0
 have e : IntKind.i64.wrap (8 * (j : Int)) = ((8 * j : Nat) : Int) := by rw [IntWalk.i64_in _ (by omega)]; simp
 rw [e, shift_shr_any _ _ _ _ (by omega), Int.toNat_natCast, Int.toNat_natCast]
 have : min (8 * j) IntKind.u64.bits = 8 * j := by
  show min (8 * j) 64 = 8 * j
  omega
 rw [this, Nat.shiftRight_eq_div_pow]
 simp
theorem wrap_u8 (m : Nat) : IntKind.u8.wrap (m : Int) = ((UInt8.ofNat m).toNat : Int) := by
 show ((m : Int) % 256) = _
 simp
theorem one_src (w : World) (x : UInt8) (val : Int) (h : val = (x.toNat : Int)) (b : Nat) (hb : b = w.heap.size) (W : World) (hW : W.heap = (w.alloc (.cells #[.int .u8 val] 5)).heap) : Src Try.prog 1 39 (.slice (some ⟨b, 0, none⟩) 1 1) [x].length (bvs [x]) W := by
 subst h hb
 refine Src.ofSlice _ Try.underlying39 ⟨w.heap.size, 0, none⟩ 1 1 (bvs [x]) rfl (fun j u hu => ?_) (bvs_one [x])
 obtain ⟨y, hy, rfl⟩ := bvs_get hu
 have hj : j = 0 := by
  have := (List.getElem?_eq_some_iff.1 hy).1
  simpa using this
 subst hj
 simp only [List.getElem?_cons_zero, Option.some.injEq] at hy
 subst hy
 exact cell_of_one (by rw [hW]; exact heap_alloc_new w _)
theorem alloc_cell {w : World} {b i : Nat} {v : Value} (h : w.cell? ⟨b, i, none⟩ = some v) (ob : Obj) : (w.alloc ob).cell? ⟨b, i, none⟩ = some v :=
 (Keeps.alloc (fun _ => False) w ob).cell (fun h => h) h
theorem alloc_free {w : World} {b i : Nat} {v : Value} (hc : w.cell? ⟨b, i, none⟩ = some v) (h : w.frozen? ⟨b, i, none⟩ = false) (ob : Obj) : (w.alloc ob).frozen? ⟨b, i, none⟩ = false := by
 have hlt : b < w.heap.size := World.block_lt_of_cell? _ _ hc
 exact (World.frozen?_of_block (w := w) (a := ⟨b, i, none⟩) ((Keeps.alloc (fun _ => False) w ob).block b hlt (fun h => h))).trans h
theorem Row.form {w : World} {g : Option Nat} {v : Value} {l : List UInt8} (h : Row w g v l) : ∃ a n c, v = .slice a n c := by
 rcases h.1.2 with ⟨hn, _⟩ | ⟨b, cap, cur, rfl, _⟩
 ·exact ⟨_, _, _, hn⟩
 ·exact ⟨_, _, _, rfl⟩
theorem pen_app {T : TypeId} {wr W w' : World} {b : Nat} {r g' : Option Nat} {v v' : Value} {l m : List UInt8} (hv : wr.heap[b]? = some (.cells #[v] T (0, 0))) (hne : r ≠ some b) (hk : Keeps (fun _ => False) wr W)
  (h1 : Row w' g' v' (l ++ m)) (h2 : W.grownBy w' r) (h3 : g' = r ∨ New W g') :
  w'.heap[b]? = some (.cells #[v] T (0, 0)) ∧ PenAt (w'.setCell ⟨b, 0, none⟩ v') b g' (l ++ m) ∧ PenStep b r g' wr (w'.setCell ⟨b, 0, none⟩ v') := by
 have hlt := lt_of_block hv
 have hk2 : Keeps (PenS b r) wr w' := kGrown (hk.mono fun _ _ h => h.elim) h2 fun k e => .inl (.inr e)
 have hk3 : Keeps (fun x => r = some x) wr w' := kGrown (hk.mono fun _ _ h => h.elim) h2 fun k e => .inl e
 have hv' : w'.heap[b]? = some (.cells #[v] T (0, 0)) := (hk3.block b hlt hne).trans hv
 have hn : g' = r ∨ New wr g' := h3.imp id fun h => h.later hk
 have hgb : g' ≠ some b := by
  rcases hn with e | e
  ·rw [e]; exact hne
  ·intro hb
   have := e b hb
   omega
 refine ⟨hv', ⟨v', T, one_setCell hv', h1.keep (Keeps.setCell (S := fun x => x = b) (fun _ => rfl) v') (fun x hx e => hgb (by rw [hx, e])), hgb⟩, ⟨kSet hk2 (.inl (.inl rfl)) _, hn⟩⟩
theorem number_any (w : World) (b : Nat) (r : Option Nat) (l : List UInt8) (n : Int) (k : Nat) (h0 : 0 ≤ n) (hk : k ≤ 8) (hp : PenAt w b r l) (hlen : l.length + 8 ≤ 1099511627776) :
  Calls Try.prog 84 #[.pointer (some ⟨b, 0, none⟩), .int .u64 n, .int .i64 k] w (Laid w b r (l ++ low n.toNat k)) := by
 have HP := Lib.hid hp
 clear hp
 go_enter Try.func84, Try.ntmps84
 go_wp2
 go_loopw [10] (fun i wr => ∃ j : Nat, j ≤ k ∧ i = .int .i64 j ∧ ∃ r', PenAt wr b r' (l ++ low n.toNat j) ∧ PenStep b r r' w wr) (fun i _ => k - (RowKit.intOf i).toNat)
 case atStart => exact ⟨0, Nat.zero_le _, rfl, r, by rw [low_zero, List.append_nil]; exact HP.out, PenStep.refl _ _ _⟩
 case round =>
  obtain ⟨j, hj, rfl, r', hpj, hst⟩ := hrel
  have HS := Lib.hid hst
  have HPJ := Lib.hid hpj
  obtain ⟨v, T, hv, hrow, hne⟩ := hpj
  have c0 := cell_of_one hv
  have f0 := free_of_one hv
  have HR := Lib.hid hrow
  have HV := Lib.hid hv
  clear hst hrow hv
  by_cases hlt : j < k
  ·have hsh := shr_val n h0 j (by omega)
   have hx := wrap_u8 (n.toNat >>> (8 * j))
   have HL : Hid (l ++ low n.toNat j ++ [UInt8.ofNat (n.toNat >>> (8 * j))] = l ++ low n.toNat (j + 1)) := by show _ = _; rw [low_succ, List.append_assoc]
   have HLen : Hid ((l ++ low n.toNat j).length + [UInt8.ofNat (n.toNat >>> (8 * j))].length ≤ 1099511627776) := by
    show _ ≤ _
    rw [List.length_append, low_length]
    simp only [List.length_cons, List.length_nil]
    omega
   generalize UInt8.ofNat (n.toNat >>> (8 * j)) = y at hx HL HLen
   generalize ((n.toNat >>> (8 * j) : Nat) : Int) = x at hsh hx
   have HX := Lib.hid hx
   clear hx
   have c2 := fun ob => alloc_cell c0 ob
   go_wp2_with fail
   go_region_law (refine step_app rfl (.tmp 17) (.tmp 23) 39 rfl wr (S := fun _ => False) (by simp [Act.eval]) (by simp [Act.eval]; rfl) HR.out (by repeat (first | with_reducible exact Keeps.refl _ _ | with_reducible refine kAlloc ?_ _ | with_reducible refine kDrew ?_)) (fun _ _ h => h) (m := [y]) (by exact one_src wr _ _ HX.out _ rfl _ rfl) HLen.out ?_; intro v' w' g' h1 h2 h3; obtain ⟨ao, an, ac, rfl⟩ := h1.form; obtain ⟨hv', HP1, HS1⟩ := pen_app HV.out hne (by repeat (first | with_reducible exact Keeps.refl _ _ | with_reducible refine kAlloc ?_ _ | with_reducible refine kDrew ?_)) h1 h2 h3; have c1 := cell_of_one hv'; have f1 := free_of_one hv'; have HP2 := Lib.hid HP1; have HS2 := Lib.hid HS1; clear h1 h2 h3 hv' HP1 HS1)
   all_goals
    go_wp2
    go_roundw
    case rel => exact ⟨j + 1, hlt, by go_num, _, by rw [← HL.out]; exact HP2.out, HS.out.trans HS2.out⟩
    case measure => simp [RowKit.intOf]; omega
  ·obtain rfl : j = k := by omega
   go_wp2
   go_end0
   exact ⟨rfl, r', HPJ.out, HS.out⟩
end S2
end Go.Proofs.Ytddbmibfebhmjaa
