/- Words for stage 2: bytes in memory (rows that the call owns, bytes that are read), blocks that stay as they were, append to a row of bytes. Conditions: as each theorem states. -/
import Derived.Test.YtddbmibfebhmjaaRows
import Derived.WalkKit
import Derived.ProofKit
import Derived.OneCell
import Derived.Laws.AppendOwn
import Derived.Laws.OwnMore
import Derived.Deep.AppendSrc
import Derived.Deep.Upon
import Derived.Lib.Hide
set_option maxRecDepth 100000
set_option maxHeartbeats 16000000
namespace Go.Proofs.Ytddbmibfebhmjaa
namespace S2
open Go.RowKit
def bv (b : UInt8) : Value := .int .u8 b.toNat
def bvs (l : List UInt8) : List Value := l.map bv
theorem bvs_length (l : List UInt8) : (bvs l).length = l.length := by simp [bvs]
theorem bvs_append (l m : List UInt8) : bvs (l ++ m) = bvs l ++ bvs m := by simp [bvs]
theorem bvs_one (l : List UInt8) : ∀ u ∈ bvs l, u.oneCell' = true := by
 intro u hu
 obtain ⟨_, _, rfl⟩ := List.mem_map.1 hu
 rfl
theorem bvs_get {l : List UInt8} {j : Nat} {u : Value} (h : (bvs l)[j]? = some u) : ∃ x, l[j]? = some x ∧ u = bv x := by
 simp only [bvs, List.getElem?_map, Option.map_eq_some_iff] at h
 obtain ⟨x, hx, rfl⟩ := h
 exact ⟨x, hx, rfl⟩
theorem bvs_at {l : List UInt8} {j : Nat} {x : UInt8} (h : l[j]? = some x) : (bvs l)[j]? = some (bv x) := by simp [bvs, h]
theorem add_plain (g o j : Nat) : (⟨g, o, none⟩ : Addr).add j = ⟨g, o + j, none⟩ := by unfold Addr.add; split <;> simp_all
theorem take_left3 {α : Type} (a b c : List α) (n : Nat) (h : n = a.length + b.length) : List.take n (a ++ (b ++ c)) = a ++ b := by
 subst h; rw [← List.append_assoc, ← List.length_append]; exact List.take_left
structure Keeps (S : Nat → Prop) (w w' : World) : Prop where
 os : w'.os = w.os
 tape : w'.tape = w.tape
 output : w'.output = w.output
 size : w.heap.size ≤ w'.heap.size
 block : ∀ k, k < w.heap.size → ¬ S k → w'.heap[k]? = w.heap[k]?
theorem Keeps.refl (S : Nat → Prop) (w : World) : Keeps S w w := ⟨rfl, rfl, rfl, Nat.le_refl _, fun _ _ _ => rfl⟩
theorem Keeps.trans {S T : Nat → Prop} {a b c : World} (h : Keeps S a b) (k : Keeps T b c) (hT : ∀ x, x < a.heap.size → T x → S x) : Keeps S a c :=
 ⟨k.os.trans h.os, k.tape.trans h.tape, k.output.trans h.output, Nat.le_trans h.size k.size, fun x hx hs => (k.block x (Nat.lt_of_lt_of_le hx h.size) (fun t => hs (hT x hx t))).trans (h.block x hx hs)⟩
theorem Keeps.then {S : Nat → Prop} {a b c : World} (h : Keeps S a b) (k : Keeps S b c) : Keeps S a c := h.trans k fun _ _ x => x
theorem Keeps.mono {S T : Nat → Prop} {a b : World} (h : Keeps S a b) (hT : ∀ x, x < a.heap.size → S x → T x) : Keeps T a b :=
 ⟨h.os, h.tape, h.output, h.size, fun x hx ht => h.block x hx fun s => ht (hT x hx s)⟩
theorem Keeps.below {S : Nat → Prop} {a b : World} {B : Nat} (h : Keeps S a b) (hB : B ≤ a.heap.size) (hS : ∀ x, x < B → ¬ S x) : Below B a b :=
 ⟨h.os, h.tape, h.output, h.size, fun k hk => h.block k (Nat.lt_of_lt_of_le hk hB) (hS k hk)⟩
theorem Keeps.ofBelow {S : Nat → Prop} {a b : World} (h : Below a.heap.size a b) : Keeps S a b := ⟨h.os, h.tape, h.output, h.size, fun k hk _ => h.block k hk⟩
theorem Keeps.alloc (S : Nat → Prop) (w : World) (o : Obj) : Keeps S w (w.alloc o) := .ofBelow ((Below.refl _ _).alloc (Nat.le_refl _) o)
theorem Keeps.drew (S : Nat → Prop) (w : World) : Keeps S w w.drew := ⟨rfl, rfl, rfl, Nat.le_refl _, fun _ _ _ => rfl⟩
theorem Keeps.setCell {S : Nat → Prop} {w : World} {p : Addr} (hp : p.block < w.heap.size → S p.block) (u : Value) : Keeps S w (w.setCell p u) :=
 ⟨rfl, rfl, rfl, by simp [World.setCell], fun k hk hs => Below.heap_setCell _ _ _ _ (fun e => hs (by rw [e]; exact hp (by rw [← e]; exact hk)))⟩
theorem Keeps.grown {S : Nat → Prop} {w w' : World} {g : Option Nat} (h : w.grownBy w' g) (hg : ∀ k, k < w.heap.size → g = some k → S k) : Keeps S w w' :=
 ⟨h.os, h.tape, h.output, h.size, fun k hk hs => h.block k hk fun e => hs (hg k hk e.symm)⟩
theorem Keeps.cell {S : Nat → Prop} {w w' : World} (h : Keeps S w w') {b o : Nat} {v : Value} (hS : ¬ S b) (hc : w.cell? ⟨b, o, none⟩ = some v) : w'.cell? ⟨b, o, none⟩ = some v := by
 have hlt : b < w.heap.size := World.block_lt_of_cell? _ _ hc
 exact (World.cell?_of_block (w := w) (a := ⟨b, o, none⟩) (h.block b hlt hS)).trans hc
def New (w : World) (g : Option Nat) : Prop := ∀ k, g = some k → w.heap.size ≤ k
theorem New.none (w : World) : New w none := fun _ h => by cases h
theorem New.later {S : Nat → Prop} {a b : World} {g : Option Nat} (h : New b g) (k : Keeps S a b) : New a g := fun x hx => Nat.le_trans k.size (h x hx)
def Row (w : World) (g : Option Nat) (v : Value) (l : List UInt8) : Prop := w.ownsRow 0 5 1 v l.length (bvs l) ∧ v.ownBlock = g
theorem Row.nil (w : World) : Row w none (.slice none 0 0) [] := ⟨World.ownsRow_nil _ _ _ _, rfl⟩
theorem Row.lt {w : World} {g : Option Nat} {v : Value} {l : List UInt8} (h : Row w g v l) {k : Nat} (hk : g = some k) : k < w.heap.size := (h.1.lt k (h.2.trans hk)).2
theorem Row.keep {S : Nat → Prop} {w w' : World} {g : Option Nat} {v : Value} {l : List UInt8} (h : Row w g v l) (k : Keeps S w w') (hg : ∀ x, g = some x → ¬ S x) : Row w' g v l := by
 refine ⟨⟨h.1.1, ?_⟩, h.2⟩
 rcases h.1.2 with hn | ⟨b, cap, cur, rfl, hb, hh, r⟩
 ·exact .inl hn
 ·have e : g = some b := h.2.symm
  exact .inr ⟨b, cap, cur, rfl, hb, (k.block b (lt_of_block hh) (hg b e)).trans hh, r⟩
def Bs (w : World) (g : Nat) (v : Value) (l : List UInt8) : Prop :=
 (v = .slice none 0 0 ∧ l = []) ∨ ∃ o cap, v = .slice (some ⟨g, o, none⟩) l.length cap ∧ l.length ≤ cap ∧ cap ≤ maxLen ∧ ∀ j x, l[j]? = some x → w.cell? ⟨g, o + j, none⟩ = some (bv x)
theorem Bs.keep {S : Nat → Prop} {w w' : World} {g : Nat} {v : Value} {l : List UInt8} (h : Bs w g v l) (k : Keeps S w w') (hg : l ≠ [] → ¬ S g) : Bs w' g v l := by
 rcases h with h | ⟨o, cap, hv, h1, h2, h3⟩
 ·exact .inl h
 ·exact .inr ⟨o, cap, hv, h1, h2, fun j x hx => k.cell (hg (by rintro rfl; simp at hx)) (h3 j x hx)⟩
theorem Bs.lt {w : World} {g : Nat} {v : Value} {l : List UInt8} (h : Bs w g v l) (hne : l ≠ []) : g < w.heap.size := by
 rcases h with ⟨_, h⟩ | ⟨o, cap, _, _, _, h3⟩
 ·exact absurd h hne
 ·exact World.block_lt_of_cell? _ _ (h3 0 _ (List.getElem?_eq_getElem (List.length_pos_iff.2 hne)))
theorem Row.bs {w : World} {g : Option Nat} {v : Value} {l : List UInt8} (h : Row w g v l) : Bs w (g.getD 0) v l := by
 rcases h.1.2 with ⟨hn, h0⟩ | ⟨b, cap, cur, rfl, hb, hh, hc, hm, hs, ht⟩
 ·exact .inl ⟨hn, List.eq_nil_of_length_eq_zero h0⟩
 ·have e : g = some b := h.2.symm
  subst e
  refine .inr ⟨0, cap, rfl, hc, hm, fun j x hx => ?_⟩
  have := h.1.cells (g := b) rfl j _ (bvs_at hx)
  rw [add_plain] at this
  simpa using this
theorem Bs.len {w : World} {g : Nat} {v : Value} {l : List UInt8} (h : Bs w g v l) : l.length ≤ maxLen := by
 rcases h with ⟨_, rfl⟩ | ⟨_, _, _, h1, h2, _⟩
 ·exact Nat.zero_le _
 ·exact Nat.le_trans h1 h2
theorem info_u8 : (Try.prog.info? 5).map (fun i => (i.zero, i.size, i.bytes)) = some (some (.int .u8 0), 1, 1) := by kernel_rfl
theorem Bs.src {w : World} {g : Nat} {v : Value} {l : List UInt8} (h : Bs w g v l) : Src Try.prog 1 39 v l.length (bvs l) w := by
 rcases h with ⟨rfl, rfl⟩ | ⟨o, cap, rfl, _, _, hc⟩
 ·exact Src.ofNil w Try.underlying39 0
 ·refine Src.ofSlice w Try.underlying39 ⟨g, o, none⟩ l.length cap (bvs l) (by simp [bvs]) (fun j u hu => ?_) (bvs_one l)
  obtain ⟨x, hx, rfl⟩ := bvs_get hu
  rw [add_plain]
  exact hc j x hx
theorem string_src (w : World) (s : ByteArray) : Src Try.prog 1 9 (.string s) s.data.toList.length (bvs s.data.toList) w := Src.ofString w Try.underlying9 s
theorem app_run {w : World} {g : Option Nat} {v : Value} {l : List UInt8} (h : Row w g v l) {tx : TypeId} {x : Value} {m : List UInt8} (hs : Src Try.prog 1 tx x m.length (bvs m) w) (hlen : l.length + m.length ≤ 1099511627776) (ty : TypeId) :
  ∃ v' w' g', (Builtin.append_ #[39, tx] ty #[v, x]).run Try.prog w = .ok v' w' ∧ Row w' g' v' (l ++ m) ∧ w.grownBy w' g ∧ (g' = g ∨ New w g') := by
 obtain ⟨i0, hi, hz0, hz1, hz2⟩ := info_parts info_u8
 by_cases hm : m = []
 ·subst hm
  have hs' : Src Try.prog i0.size tx x 0 [] w := by rw [hz1]; exact hs
  have hrefl : w.grownBy w g := ⟨rfl, rfl, rfl, Nat.le_refl _, fun _ _ _ => rfl⟩
  rcases h.1.2 with ⟨rfl, h0⟩ | ⟨b, cap, cur, rfl, hb, hh, hc, hmx, hsz, ht⟩
  ·exact ⟨_, w, g, run_append_nothing w 39 tx ty 5 i0 Try.underlying39 hi none 0 0 (Nat.le_refl _) x hs', by rw [List.append_nil]; exact h, hrefl, .inl rfl⟩
  ·exact ⟨_, w, g, run_append_nothing w 39 tx ty 5 i0 Try.underlying39 hi (some ⟨b, 0, none⟩) l.length cap hc x hs', by rw [List.append_nil]; exact h, hrefl, .inl rfl⟩
 ·have hpos : 0 < m.length := List.length_pos_iff.2 hm
  have hs' : Src Try.prog i0.size tx x m.length (bvs m) w := by rw [hz1]; exact hs
  have hml : (bvs m).length = m.length := bvs_length m
  have key : ∀ (base : Option Addr) (cap : Nat), (Builtin.firstCells i0.size l.length (.slice base l.length cap)).run Try.prog w.drew = .ok (bvs l).toArray w.drew → cap < l.length + m.length →
    ∃ v' w' g', (Builtin.append_ #[39, tx] ty #[.slice base l.length cap, x]).run Try.prog w = .ok v' w' ∧ Row w' g' v' (l ++ m) ∧ w.grownBy w' g ∧ (g' = g ∨ New w g') := by
   intro base cap hold hlt
   refine ⟨_, _, some w.heap.size, run_append_grow_src w 39 tx ty 5 i0 (.int .u8 0) Try.underlying39 hi hz0 base l.length cap (bvs l) hold x m.length (bvs m) hs' hlt (by omega)
    (growslice_fits hlt (by rw [hz2]; omega)), ⟨⟨by simp [bvs_length], .inr ⟨w.heap.size, grownCap w (l.length + m.length) cap 5, _, by rw [List.length_append], Nat.zero_le _, heap_alloc_new w.drew _, ?_, ?_, ?_, ?_⟩⟩, rfl⟩,
    ⟨rfl, rfl, rfl, by simp, fun k hk _ => heap_alloc_old w.drew _ hk⟩, .inr fun k hk => by cases hk; exact Nat.le_refl _⟩
   ·rw [List.length_append]; exact grownCap_ge w _ _ _
   ·exact grownCap_le_maxLen w _ _ _ (by unfold maxLen; omega)
   ·have := grownCap_ge w (l.length + m.length) cap 5
    simp [size_zeroCells, bvs_length, Value.cells]
    omega
   ·simp only [Array.toList_append, List.append_assoc, bvs_append, List.length_append, Nat.mul_one]
    exact take_left3 _ _ _ _ (by simp [bvs_length])
  rcases h.1.2 with ⟨rfl, h0⟩ | ⟨b, cap, cur, rfl, hb, hh, hc, hmx, hsz, ht⟩
  ·have hl : l = [] := List.eq_nil_of_length_eq_zero h0
   subst hl
   exact key none 0 (run_firstCells_none _ _ _ _ _) (by simpa using hpos)
  ·have hgb : g = some b := h.2.symm
   by_cases hroom : l.length + m.length ≤ cap
   ·have hst := run_storeCells_at Try.prog b l.length 5 (bvs m) 0 cur w hh (by rw [hml]; omega) (bvs_one m)
    simp only [Nat.add_zero] at hst
    have hrun : (Builtin.append_ #[39, tx] ty #[.slice (some ⟨b, 0, none⟩) l.length cap, x]).run Try.prog w = .ok (.slice (some ⟨b, 0, none⟩) (l.length + m.length) cap) (w.setRow b (cur.toList.take l.length ++ bvs m ++ cur.toList.drop (l.length + (bvs m).length)).toArray) := by
     rcases hs'.kind with ⟨e', hk⟩ | hk <;>
      simp [Builtin.append_, run_underlying Try.underlying39, run_underlying hk, sizeOf, typeInfo, hi, hs'.len, hroom, hz1 ▸ hs'.cells, hz1, add_plain, hst]
    refine ⟨_, _, g, hrun, ⟨⟨by simp [bvs_length], .inr ⟨b, cap, _, by rw [List.length_append], hb, setRow_heap w b cur _ 5 _ hh, by rw [List.length_append]; exact hroom, hmx, ?_, ?_⟩⟩, hgb.symm⟩, ⟨rfl, rfl, rfl, by simp, fun k _ hk => setRow_other w b k _ (fun e => hk (by rw [hgb, e]))⟩, .inl rfl⟩
    ·simp only [List.size_toArray, List.length_append, List.length_take, List.length_drop, Array.length_toList, hml]
     omega
    ·have ht' : cur.toList.take l.length = bvs l := by simpa using ht
     have e1 : (l ++ m).length * 1 = (bvs l ++ bvs m).length := by simp [bvs_length]
     rw [List.toList_toArray, ht', e1, bvs_append]
     exact List.take_left
   ·refine key (some ⟨b, 0, none⟩) cap (run_firstCells_some (P := Try.prog) w.drew i0.size l.length ⟨b, 0, none⟩ l.length cap (bvs l) (by simp [hz1, bvs_length]) (fun j u hu => ?_)) (by omega)
    have := h.1.cells (g := b) rfl j u hu
    simpa using this
theorem wpList_app {w : World} {ops : Array Oper} {rest : List Oper} {o : Oper} {a : Act} {Q : Exit → Act → World → Prop} (hgd : o.guard = none) (s x : Operand) (tx : TypeId)
  (ho : o.op = .call { callee := .builtin .append, args := #[s, x], argTypes := #[39, tx] }) {g : Option Nat} {v xv : Value} {l m : List UInt8} (hs : a.eval s = v) (hx : a.eval x = xv)
  (hrow : Row w g v l) (hsrc : Src Try.prog 1 tx xv m.length (bvs m) w) (hlen : l.length + m.length ≤ 1099511627776)
  (h : ∀ v' w' g', Row w' g' v' (l ++ m) → w.grownBy w' g → (g' = g ∨ New w g') → wpList Try.prog ops Q rest (a.put o.dst v') w') : wpList Try.prog ops Q (o :: rest) a w := by
 obtain ⟨v', w', g', hrun, h1, h2, h3⟩ := app_run hrow hsrc hlen o.type
 refine wpList_plain hgd fun K hK => ?_
 unfold Oper.wp
 simp [execOp, ho, resolve, invoke, builtin, hs, hx, hrun, Result.andThen]
 exact hK _ _ (h v' w' g' h1 h2 h3)
end S2
end Go.Proofs.Ytddbmibfebhmjaa
