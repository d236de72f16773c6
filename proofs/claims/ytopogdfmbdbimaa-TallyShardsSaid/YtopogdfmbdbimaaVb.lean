/- The reference's tally in memory; New. Conditions: lists of at most a million. -/
import Derived.Test.YtopogdfmbdbimaaVa
import Derived.Test.YtopogdfmbdbimaaTk
import Derived.Test.YtopogdfmbdbimaaFa
import Derived.Maps.AppendAt
import Derived.Deep.RegionLaw
import Derived.Deep.RegionWith
set_option linter.unusedVariables false
namespace Go.Proofs.Ytopogdfmbdbimaa
open Go.RowKit

theorem OwnI.keep {S : Nat → Prop} {w w' : World} {base : Nat} {v : Value} {l : List Int} (h : OwnI w base v l) (k : Keeps S w w') (hg : ∀ x, v.ownBlock = some x → ¬ S x) : OwnI w' base v l := by
  refine ⟨h.1, ?_⟩
  rcases h.2 with hn | ⟨b, cap, cur, rfl, hb, hh, r⟩
  · exact .inl hn
  · exact .inr ⟨b, cap, cur, rfl, hb, (k.block b (lt_of_block hh) (hg b rfl)).trans hh, r⟩
theorem keepsAlloc {S : Nat → Prop} {w x : World} (h : Keeps S w x) (ob : Obj) : Keeps S w (x.alloc ob) := h.then (Keeps.alloc _ _ _)
theorem keepsDrew {S : Nat → Prop} {w x : World} (h : Keeps S w x) : Keeps S w x.drew := h.then (Keeps.drew _ _)
theorem keepsSet {S : Nat → Prop} {w x : World} (h : Keeps S w x) {p : Addr} (hp : S p.block ∨ w.heap.size ≤ p.block) (u : Value) : Keeps S w (x.setCell p u) :=
  h.trans (Keeps.setCell (S := fun k => k = p.block) (fun _ => rfl) u) fun k hk e => by
    subst e
    rcases hp with hp | hp
    · exact hp
    · omega
theorem keepsGrown {S : Nat → Prop} {w x y : World} {g : Option Nat} (h : Keeps S w x) (k : x.grownBy y g) (hg : ∀ k, g = some k → S k ∨ w.heap.size ≤ k) : Keeps S w y :=
  h.trans (Keeps.grown (S := fun k => g = some k) k fun _ _ e => e) fun k hk e => by
    rcases hg k e with h | h
    · exact h
    · omega
theorem il_one {w0 W : World} {x : Int} {b : Nat} (hb : b = w0.heap.size) (hW : W.heap = (w0.alloc (.cells #[.int .i64 x] 3)).heap) : Il W (some ⟨b, 0, none⟩) 1 [x] := by
  subst hb
  have h : W.heap[w0.heap.size]? = some (.cells #[.int .i64 x] 3 (0, 0)) := by rw [hW]; exact heap_alloc_new w0 _
  exact il_row h rfl 1
/-- append to a row of numbers, as a step of a region that leaves its order open; where the new row lies. -/
theorem step_i {ops : Array Oper} {o : Oper} {a : Act} {w : World} {K : Act → World → Prop} {Q : Exit → Act → World → Prop} {E : Prop} (hg : o.guard = none) (s x : Operand)
    (ho : o.op = .call { callee := .builtin .append, args := #[s, x], argTypes := #[23, 23] }) (w0 : World) {v : Value} {d : List Int} {ad : Addr} {n cap : Nat} {l : List Int} (hs : a.eval s = v) (hx : a.eval x = .slice (some ad) n cap) (hn : n = l.length)
    (hown : OwnI w0 0 v d) (hk : Keeps (fun _ => False) w0 w) (hsl : Il w (some ad) cap l) (hlen : d.length + l.length ≤ 4000000)
    (h : ∀ v' w', OwnI w' 0 v' (d ++ l) → w.grownBy w' v.ownBlock → (v'.ownBlock = v.ownBlock ∨ v'.ownBlock = some w.heap.size) → K (a.put o.dst v') w') :
    if Region.wanted o (yielded ops a.tmps) = true then Oper.wp Try.prog o a w K Q else E := by
  have hw : Region.wanted o (yielded ops a.tmps) = true := by simp [Region.wanted, hg]
  rw [if_pos hw]
  subst hn
  obtain ⟨i0, hi, hz0, hz1, hz2⟩ := info_parts info_int
  have hown' := hown.keep hk fun _ _ h => h
  have hc : ∀ (j : Nat) (u : Value), (cellsI l)[j]? = some u → w.cell? (ad.add j) = some u := by
    intro j u hj
    have hne : l ≠ [] := by rintro rfl; simp [cellsI] at hj
    obtain ⟨g, o', ha, _, hrow⟩ := hsl.2 hne
    simp only [Option.some.injEq] at ha
    subst ha
    exact hrow.cells j u hj
  obtain ⟨v', w', hr, h2, h3, _, h5⟩ := run_append_own_at (P := Try.prog) w 0 23 o.type 3 i0 (.int .i64 0) 1 8 Try.underlying23 hi hz0 hz1 hz2 rfl (by decide) v d.length (cellsI d) hown' ad l.length cap (cellsI l) (by rw [cellsI_length]; omega) hc (cellsI_one l) (by unfold maxLen; omega) (by omega) (Nat.zero_le _)
  unfold Oper.wp execOp
  simp only [ho, resolve, invoke, builtin, Sem.run_bind, Sem.run_pure, Result.andThen_ok, List.map_toArray, List.map_cons, List.map_nil, hs, hx, hr]
  refine h v' w' ?_ h3 h5
  show w'.ownsRow 0 _ 1 v' _ _
  rw [List.length_append, cellsI_append]
  exact h2

/-- The blocks of a tally of the reference's. -/
def footR (b : Nat) (vP vN : Value) (x : Nat) : Prop := x = b ∨ vP.ownBlock = some x ∨ vN.ownBlock = some x
/-- Block b is a tally of the reference's, over the topology at a, which lies in W0; its places, and who has answered, lie in rows of its own. -/
structure RT (W0 w : World) (b : Nat) (a : Option Addr) (c : Nat) (l : List Sh) (P N : List Int) (vP vN : Value) : Prop where
  blk : w.heap[b]? = some (.cells #[.slice a l.length c, vP, vN] 35 (0, 0))
  ownP : OwnI w 0 vP P
  ownN : OwnI w 0 vN N
  neP : vP.ownBlock ≠ some b
  neN : vN.ownBlock ≠ some b
  neX : ∀ k, vP.ownBlock = some k → vN.ownBlock ≠ some k
  top : Hl W0 a l
  bel : Below W0.heap.size W0 w
  fresh : ∀ x, footR b vP vN x → W0.heap.size ≤ x
theorem RT.lt {W0 w : World} {b : Nat} {a : Option Addr} {c : Nat} {l : List Sh} {P N : List Int} {vP vN : Value} (h : RT W0 w b a c l P N vP vN) : b < w.heap.size := lt_of_block h.blk
theorem RT.c0 {W0 w : World} {b : Nat} {a : Option Addr} {c : Nat} {l : List Sh} {P N : List Int} {vP vN : Value} (h : RT W0 w b a c l P N vP vN) : w.cell? ⟨b, 0, none⟩ = some (.slice a l.length c) := by rw [cell_of_row w b _ _ _ _ h.blk]; rfl
theorem RT.c1 {W0 w : World} {b : Nat} {a : Option Addr} {c : Nat} {l : List Sh} {P N : List Int} {vP vN : Value} (h : RT W0 w b a c l P N vP vN) : w.cell? ⟨b, 1, none⟩ = some vP := by rw [cell_of_row w b _ _ _ _ h.blk]; rfl
theorem RT.c2 {W0 w : World} {b : Nat} {a : Option Addr} {c : Nat} {l : List Sh} {P N : List Int} {vP vN : Value} (h : RT W0 w b a c l P N vP vN) : w.cell? ⟨b, 2, none⟩ = some vN := by rw [cell_of_row w b _ _ _ _ h.blk]; rfl
theorem RT.hl {W0 w : World} {b : Nat} {a : Option Addr} {c : Nat} {l : List Sh} {P N : List Int} {vP vN : Value} (h : RT W0 w b a c l P N vP vN) : Hl w a l := h.top.later h.bel
/-- Whatever happens to other blocks. -/
theorem RT.keep {W0 w w' : World} {b : Nat} {a : Option Addr} {c : Nat} {l : List Sh} {P N : List Int} {vP vN : Value} {S : Nat → Prop} (h : RT W0 w b a c l P N vP vN) (k : Keeps S w w') (hS : ∀ x, S x → W0.heap.size ≤ x) (hd : ∀ x, footR b vP vN x → ¬ S x) : RT W0 w' b a c l P N vP vN where
  blk := (k.block b h.lt (hd b (.inl rfl))).trans h.blk
  ownP := h.ownP.keep k fun x hx => hd x (.inr (.inl hx))
  ownN := h.ownN.keep k fun x hx => hd x (.inr (.inr hx))
  neP := h.neP
  neN := h.neN
  neX := h.neX
  top := h.top
  bel := h.bel.trans (k.below h.bel.size fun x hx hs => by have := hS x hs; omega)
  fresh := h.fresh
theorem RT.later {W0 w w' : World} {b : Nat} {a : Option Addr} {c : Nat} {l : List Sh} {P N : List Int} {vP vN : Value} (h : RT W0 w b a c l P N vP vN) (hb : Below w.heap.size w w') : RT W0 w' b a c l P N vP vN :=
  h.keep (Keeps.ofBelow (S := fun _ => False) hb) (fun _ h => h.elim) (fun _ _ h => h)
theorem RT.new {W0 w : World} {a : Option Addr} {c : Nat} {l : List Sh} (h : Hl W0 a l) (hb : Below W0.heap.size W0 w) : RT W0 (w.alloc (.cells #[.slice a l.length c, .slice none 0 0, .slice none 0 0] 35)) w.heap.size a c l [] [] (.slice none 0 0) (.slice none 0 0) where
  blk := heap_alloc_new w _
  ownP := OwnI.nil _ _
  ownN := OwnI.nil _ _
  neP := by simp [Value.ownBlock]
  neN := by simp [Value.ownBlock]
  neX := fun k hk => by simp [Value.ownBlock] at hk
  top := h
  bel := hb.alloc hb.size _
  fresh := fun x hx => by
    rcases hx with rfl | hx | hx
    · exact hb.size
    · simp [Value.ownBlock] at hx
    · simp [Value.ownBlock] at hx
/-- What becomes of the world when a tally of the reference's takes something up. -/
structure RStep (b : Nat) (vP vN vP' vN' : Value) (w w' : World) : Prop where
  keeps : Keeps (footR b vP vN) w w'
  new : ∀ x, footR b vP' vN' x → footR b vP vN x ∨ w.heap.size ≤ x
theorem RStep.refl (b : Nat) (vP vN : Value) (w : World) : RStep b vP vN vP vN w w := ⟨Keeps.refl _ _, fun _ h => .inl h⟩
theorem RStep.trans {b : Nat} {vP vN vP' vN' vP2 vN2 : Value} {u v w : World} (h : RStep b vP vN vP' vN' u v) (k : RStep b vP' vN' vP2 vN2 v w) : RStep b vP vN vP2 vN2 u w := by
  refine ⟨h.keeps.trans k.keeps fun x hx hs => ?_, fun x hx => ?_⟩
  · rcases h.new x hs with e | e
    · exact e
    · omega
  · rcases k.new x hx with e | e
    · exact h.new x e
    · exact .inr (Nat.le_trans h.keeps.size e)
theorem block_set3 {w : World} {b i : Nat} {u0 u1 u2 : Value} {t : TypeId} (h : w.heap[b]? = some (.cells #[u0, u1, u2] t (0, 0))) (u : Value) : (w.setCell ⟨b, i, none⟩ u).heap[b]? = some (.cells (#[u0, u1, u2].setIfInBounds i u) t (0, 0)) := block_setCell h u
/-- A place more: the row that was appended to, and the tally's cell behind the store of what came of it. -/
theorem RT.addP {W0 wr W w' : World} {b : Nat} {a : Option Addr} {c : Nat} {l : List Sh} {P N m : List Int} {vP vN v' : Value} (h : RT W0 wr b a c l P N vP vN) (hk : Keeps (fun _ => False) wr W)
    (h1 : OwnI w' 0 v' m) (h2 : W.grownBy w' vP.ownBlock) (h3 : v'.ownBlock = vP.ownBlock ∨ v'.ownBlock = some W.heap.size) :
    w'.heap[b]? = some (.cells #[.slice a l.length c, vP, vN] 35 (0, 0)) ∧ RT W0 (w'.setCell ⟨b, 1, none⟩ v') b a c l m N v' vN ∧ RStep b vP vN v' vN wr (w'.setCell ⟨b, 1, none⟩ v') := by
  have hlt := h.lt
  have hk2 : Keeps (footR b vP vN) wr w' := keepsGrown (hk.mono fun _ _ h => h.elim) h2 fun k e => .inl (.inr (.inl e))
  have hk3 : Keeps (fun x => vP.ownBlock = some x) wr w' := keepsGrown (hk.mono fun _ _ h => h.elim) h2 fun k e => .inl e
  have hv' := (hk3.block b hlt h.neP).trans h.blk
  have hsz := hk.size
  have hnb : ∀ k, v'.ownBlock = some k → vP.ownBlock = some k ∨ wr.heap.size ≤ k := by
    intro k hk'
    rcases h3 with e | e
    · exact .inl (by rw [← e]; exact hk')
    · rw [e] at hk'
      simp only [Option.some.injEq] at hk'
      exact .inr (by omega)
  have hne : v'.ownBlock ≠ some b := by
    intro e
    rcases hnb b e with e | e
    · exact h.neP e
    · omega
  have hks : Keeps (footR b vP vN) wr (w'.setCell ⟨b, 1, none⟩ v') := keepsSet hk2 (.inl (.inl rfl)) _
  refine ⟨hv', ⟨?_, ?_, ?_, hne, h.neN, ?_, h.top, ?_, ?_⟩, ⟨hks, ?_⟩⟩
  · rw [block_setCell hv']
    rfl
  · exact h1.keep (Keeps.setCell (S := fun x => x = b) (fun _ => rfl) v') fun x hx e => hne (by rw [hx, e])
  · refine h.ownN.keep (keepsSet (hk3.mono (T := fun x => vP.ownBlock = some x ∨ x = b) fun _ _ h => .inl h) (p := ⟨b, 1, none⟩) (.inl (.inr rfl)) v') fun x hx e => ?_
    rcases e with e | e
    · exact h.neX x e hx
    · exact h.neN (by rw [hx, e])
  · intro k hk' hn
    rcases hnb k hk' with e | e
    · exact h.neX k e hn
    · have := (h.ownN.blt k hn)
      omega
  · exact h.bel.trans (hks.below h.bel.size fun x hx hs => by have := h.fresh x hs; omega)
  · intro x hx
    rcases hx with rfl | hx | hx
    · exact h.fresh _ (.inl rfl)
    · rcases hnb x hx with e | e
      · exact h.fresh x (.inr (.inl e))
      · exact Nat.le_trans h.bel.size e
    · exact h.fresh x (.inr (.inr hx))
  · intro x hx
    rcases hx with rfl | hx | hx
    · exact .inl (.inl rfl)
    · rcases hnb x hx with e | e
      · exact .inl (.inr (.inl e))
      · exact .inr e
    · exact .inl (.inr (.inr hx))
/-- An answer more. -/
theorem RT.addN {W0 wr W w' : World} {b : Nat} {a : Option Addr} {c : Nat} {l : List Sh} {P N m : List Int} {vP vN v' : Value} (h : RT W0 wr b a c l P N vP vN) (hk : Keeps (fun _ => False) wr W)
    (h1 : OwnI w' 0 v' m) (h2 : W.grownBy w' vN.ownBlock) (h3 : v'.ownBlock = vN.ownBlock ∨ v'.ownBlock = some W.heap.size) :
    w'.heap[b]? = some (.cells #[.slice a l.length c, vP, vN] 35 (0, 0)) ∧ RT W0 (w'.setCell ⟨b, 2, none⟩ v') b a c l P m vP v' ∧ RStep b vP vN vP v' wr (w'.setCell ⟨b, 2, none⟩ v') := by
  have hlt := h.lt
  have hk2 : Keeps (footR b vP vN) wr w' := keepsGrown (hk.mono fun _ _ h => h.elim) h2 fun k e => .inl (.inr (.inr e))
  have hk3 : Keeps (fun x => vN.ownBlock = some x) wr w' := keepsGrown (hk.mono fun _ _ h => h.elim) h2 fun k e => .inl e
  have hv' := (hk3.block b hlt h.neN).trans h.blk
  have hsz := hk.size
  have hnb : ∀ k, v'.ownBlock = some k → vN.ownBlock = some k ∨ wr.heap.size ≤ k := by
    intro k hk'
    rcases h3 with e | e
    · exact .inl (by rw [← e]; exact hk')
    · rw [e] at hk'
      simp only [Option.some.injEq] at hk'
      exact .inr (by omega)
  have hne : v'.ownBlock ≠ some b := by
    intro e
    rcases hnb b e with e | e
    · exact h.neN e
    · omega
  have hks : Keeps (footR b vP vN) wr (w'.setCell ⟨b, 2, none⟩ v') := keepsSet hk2 (.inl (.inl rfl)) _
  refine ⟨hv', ⟨?_, ?_, ?_, h.neP, hne, ?_, h.top, ?_, ?_⟩, ⟨hks, ?_⟩⟩
  · rw [block_setCell hv']
    rfl
  · refine h.ownP.keep (keepsSet (hk3.mono (T := fun x => vN.ownBlock = some x ∨ x = b) fun _ _ h => .inl h) (p := ⟨b, 2, none⟩) (.inl (.inr rfl)) v') fun x hx e => ?_
    rcases e with e | e
    · exact h.neX x hx e
    · exact h.neP (by rw [hx, e])
  · exact h1.keep (Keeps.setCell (S := fun x => x = b) (fun _ => rfl) v') fun x hx e => hne (by rw [hx, e])
  · intro k hk' hn
    rcases hnb k hn with e | e
    · exact h.neX k hk' e
    · have := (h.ownP.blt k hk')
      omega
  · exact h.bel.trans (hks.below h.bel.size fun x hx hs => by have := h.fresh x hs; omega)
  · intro x hx
    rcases hx with rfl | hx | hx
    · exact h.fresh _ (.inl rfl)
    · exact h.fresh x (.inr (.inl hx))
    · rcases hnb x hx with e | e
      · exact h.fresh x (.inr (.inr e))
      · exact Nat.le_trans h.bel.size e
  · intro x hx
    rcases hx with rfl | hx | hx
    · exact .inl (.inl rfl)
    · exact .inl (.inr (.inl hx))
    · rcases hnb x hx with e | e
      · exact .inl (.inr (.inr e))
      · exact .inr e

end Go.Proofs.Ytopogdfmbdbimaa
