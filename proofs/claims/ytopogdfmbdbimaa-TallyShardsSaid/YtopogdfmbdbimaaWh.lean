/- New: a tally of the program's over the shards at these places. Conditions: lists of at most a million. -/
import Derived.Test.YtopogdfmbdbimaaWg
set_option linter.unusedVariables false
namespace Go.Proofs.Ytopogdfmbdbimaa
open Go.RowKit Go.Sort Go.Shelf Go.Maps

theorem info_shard : (Try.prog.info? 40).map (fun i => (i.zero, i.size, i.bytes)) = some (some (.agg #[.string ⟨#[]⟩, .string ⟨#[]⟩, .slice none 0 0]), 3, 56) := by kernel_rfl
/-- append of one shard to a row of shards of the call's own, as a step of a region that leaves its order open. -/
theorem step_s {ops : Array Oper} {o : Oper} {a : Act} {w : World} {K : Act → World → Prop} {Q : Exit → Act → World → Prop} {E : Prop} (hg : o.guard = none) (s x : Operand)
    (ho : o.op = .call { callee := .builtin .append, args := #[s, x], argTypes := #[22, 22] }) (w0 : World) (base : Nat) {v : Value} {d : List Sh} {ad : Addr} {cap : Nat} {m : Sh} (hs : a.eval s = v) (hx : a.eval x = .slice (some ad) 1 cap)
    (hown : OwnS w0 base v d) (hk : Keeps (fun _ => False) w0 w) (hc : ∀ (j : Nat) (u : Value), (cellsS [m])[j]? = some u → w.cell? (ad.add j) = some u) (hlen : d.length ≤ 1000000) (hbase : base ≤ w0.heap.size)
    (h : ∀ v' w', OwnS w' base v' (d ++ [m]) → w.grownBy w' v.ownBlock → K (a.put o.dst v') w') :
    if Region.wanted o (yielded ops a.tmps) = true then Oper.wp Try.prog o a w K Q else E := by
  have hw : Region.wanted o (yielded ops a.tmps) = true := by simp [Region.wanted, hg]
  rw [if_pos hw]
  obtain ⟨i0, hi, hz0, hz1, hz2⟩ := info_parts info_shard
  have hown' := hown.keep hk fun _ _ h => h
  obtain ⟨v', w', hr, h2, h3, _, h5⟩ := run_append_own_at (P := Try.prog) w base 22 o.type 40 i0 (.agg #[.string ⟨#[]⟩, .string ⟨#[]⟩, .slice none 0 0]) 3 56 Try.underlying22 hi hz0 hz1 hz2 rfl (by decide) v d.length (cellsS d) hown' ad 1 cap (cellsS [m]) rfl hc (cellsS_one [m]) (by unfold maxLen; omega) (by omega) (Nat.le_trans hbase hk.size)
  unfold Oper.wp execOp
  simp only [ho, resolve, invoke, builtin, Sem.run_bind, Sem.run_pure, Result.andThen_ok, List.map_toArray, List.map_cons, List.map_nil, hs, hx, hr]
  refine h v' w' ?_ h3
  show w'.ownsRow base _ 3 v' _ _
  rw [List.length_append, cellsS_append]
  exact h2
/-- The cells of one shard that have just been laid. -/
theorem sh_one {w0 W : World} {m : Sh} {b : Nat} (hb : b = w0.heap.size) (hW : W.heap = (w0.alloc (.cells #[.string m.sp.1, .string m.sp.2, slV m] 40)).heap) : ∀ (j : Nat) (u : Value), (cellsS [m])[j]? = some u → W.cell? ((⟨b, 0, none⟩ : Addr).add j) = some u := by
  subst hb
  have h : W.heap[w0.heap.size]? = some (.cells #[.string m.sp.1, .string m.sp.2, slV m] 40 (0, 0)) := by rw [hW]; exact heap_alloc_new w0 _
  intro j u hj
  rw [Go.WideShapes.add_plain, Nat.zero_add, cell_of_row W _ _ _ _ _ h]
  have hj3 := (List.getElem?_eq_some_iff.1 hj).1
  rw [cellsS_length] at hj3
  simp only [List.length_cons, List.length_nil] at hj3
  have : j = 0 ∨ j = 1 ∨ j = 2 := by omega
  rcases this with rfl | rfl | rfl <;> exact hj

theorem grown_belowS {B base : Nat} {x w w' : World} {v : Value} {d : List Sh} (h : Below B x w) (hown : OwnS w base v d) (hB : B ≤ base) (hw : B ≤ w.heap.size) (hg : w.grownBy w' v.ownBlock) : Below B x w' :=
  h.grown hg hw (fun k hk => Nat.le_trans hB (hown.block k hk).1)
/-- A tally while New makes it. -/
structure NT (w0 w : World) (b mb : Nat) (vs vn : Value) (ms : List Sh) (ns : List Int) : Prop where
  blk : Tly w b vs vn mb
  own : OwnS w w0.heap.size vs ms
  each : ∀ m ∈ ms, OwnI w w0.heap.size (slV m) m.nodes
  nds : OwnI w w0.heap.size vn ns
  map : MapI w mb 0 (.map [])
  lob : w0.heap.size ≤ b
  lom : w0.heap.size ≤ mb
  bel : Below w0.heap.size w0 w
theorem NT.later {w0 w w' : World} {b mb : Nat} {vs vn : Value} {ms : List Sh} {ns : List Int} (h : NT w0 w b mb vs vn ms ns) (hb : Below w.heap.size w w') : NT w0 w' b mb vs vn ms ns where
  blk := h.blk.later hb h.blk.lt
  own := h.own.later hb
  each := fun m hm => (h.each m hm).later hb
  nds := h.nds.later hb
  map := h.map.later hb h.map.lt
  lob := h.lob
  lom := h.lom
  bel := blThen h.bel hb
theorem NT.push {w0 wr W w' : World} {b mb : Nat} {vs vn v' : Value} {ms : List Sh} {ns : List Int} {m : Sh} (h : NT w0 wr b mb vs vn ms ns) (hk : Keeps (fun _ => False) wr W) (hm : OwnI W w0.heap.size (slV m) m.nodes) (h1 : OwnS w' w0.heap.size v' (ms ++ [m])) (h2 : W.grownBy w' vs.ownBlock) :
    Tly w' b vs vn mb ∧ NT w0 (w'.setCell ⟨b, 0, none⟩ v') b mb v' vn (ms ++ [m]) ns ∧ ∀ (v : Value) (l : List Int), OwnI wr w0.heap.size v l → OwnI (w'.setCell ⟨b, 0, none⟩ v') w0.heap.size v l := by
  have hbl : Below wr.heap.size wr W := hk.below (Nat.le_refl _) fun _ _ h => h
  have hw := h.later hbl
  have k2 : Keeps (fun x => vs.ownBlock = some x) W w' := Keeps.grown h2 fun _ _ e => e
  have nb : vs.ownBlock ≠ some b := by
    intro e
    obtain ⟨_, cur, hh⟩ := hw.own.block b e
    have h3 := hw.blk
    unfold Tly at h3
    rw [hh] at h3
    simp at h3
  have ni : ∀ (v : Value) (l : List Int), OwnI W w0.heap.size v l → ∀ x, v.ownBlock = some x → vs.ownBlock ≠ some x := by
    intro v l ho x hx e
    obtain ⟨_, cur, hh⟩ := hw.own.block x e
    obtain ⟨_, cur2, hh2⟩ := ho.blockI x hx
    rw [hh] at hh2
    simp at hh2
  have nm : vs.ownBlock ≠ some mb := by
    intro e
    obtain ⟨_, cur, hh⟩ := hw.own.block mb e
    obtain ⟨es, clock, hh2, _⟩ := hw.map
    rw [hh] at hh2
    cases hh2
  have hv' : Tly w' b vs vn mb := (k2.block b hw.blk.lt nb).trans hw.blk
  have k3 : Keeps (fun x => x = b) w' (w'.setCell ⟨b, 0, none⟩ v') := Keeps.setCell (S := fun x => x = b) (fun _ => rfl) v'
  have bi : ∀ (v : Value) (l : List Int), OwnI W w0.heap.size v l → OwnI (w'.setCell ⟨b, 0, none⟩ v') w0.heap.size v l := by
    intro v l ho
    have h4 := ho.keep k2 (ni v l ho)
    refine h4.keep k3 fun x hx e => ?_
    subst e
    obtain ⟨_, cur2, hh2⟩ := h4.blockI _ hx
    have h3 := hv'
    unfold Tly at h3
    rw [hh2] at h3
    simp at h3
  refine ⟨hv', ⟨?_, ?_, ?_, bi _ _ hw.nds, ?_, h.lob, h.lom, ?_⟩, fun v l ho => bi v l (ho.later hbl)⟩
  · unfold Tly at hv' ⊢
    rw [block_setCell hv']
    rfl
  · refine h1.keep k3 fun x hx e => ?_
    subst e
    obtain ⟨_, cur2, hh2⟩ := h1.block _ hx
    have h3 := hv'
    unfold Tly at h3
    rw [hh2] at h3
    simp at h3
  · intro q hq
    rcases List.mem_append.1 hq with hq | hq
    · exact bi _ _ (hw.each q hq)
    · simp only [List.mem_singleton] at hq
      subst hq
      exact bi _ _ hm
  · refine (hw.map.keep k2 nm).keep k3 fun e => ?_
    subst e
    obtain ⟨es, clock, hh2, _⟩ := hw.map.keep k2 nm
    have h3 := hv'
    unfold Tly at h3
    rw [hh2] at h3
    cases h3
  · exact blSet (grown_belowS hw.bel hw.own (Nat.le_refl _) hw.bel.size h2) (p := ⟨b, 0, none⟩) h.lob _

end Go.Proofs.Ytopogdfmbdbimaa
