/- Lists of numbers in memory, lists of shards in memory; only, isNode, Quorum. Conditions: none. -/
import Derived.Test.YtopogdfmbdbimaaTa
import Derived.Test.YtopogdfmbdbimaaKd
namespace Go.Proofs.Ytopogdfmbdbimaa
open Go.RowKit Go.Sort

/-- From offset o on, block g holds the numbers of l. -/
def RowI (w : World) (g o : Nat) (l : List Int) : Prop := ∀ (i : Nat) x, l[i]? = some x → w.cell? ⟨g, o + i, none⟩ = some (.int .i64 x)
/-- The slice at a, of capacity cap, holds the numbers of l. -/
def Il (w : World) (a : Option Addr) (cap : Nat) (l : List Int) : Prop := (a = none → cap = 0) ∧ (l ≠ [] → ∃ g o, a = some ⟨g, o, none⟩ ∧ g < w.heap.size ∧ RowI w g o l)
theorem RowI.later {B : Nat} {W wr : World} {g o : Nat} {l : List Int} (h : RowI W g o l) (hb : g < B) (hw : Below B W wr) : RowI wr g o l := fun i s hi => cell_in hw hb (h i s hi)
theorem Il.later {W wr : World} {a : Option Addr} {c : Nat} {l : List Int} (h : Il W a c l) (hw : Below W.heap.size W wr) : Il wr a c l := by
  refine ⟨h.1, fun hne => ?_⟩
  obtain ⟨g, o, ha, hg, hl⟩ := h.2 hne
  exact ⟨g, o, ha, Nat.lt_of_lt_of_le hg hw.size, hl.later hg hw⟩
theorem Il.at {w : World} {a : Option Addr} {cap : Nat} {l : List Int} (h : Il w a cap l) {k : Nat} {s : Int} (hs : l[k]? = some s) : ∃ g o, a = some ⟨g, o, none⟩ ∧ g < w.heap.size ∧ w.cell? ⟨g, o + k, none⟩ = some (.int .i64 s) := by
  have hne : l ≠ [] := by rintro rfl; simp at hs
  obtain ⟨g, o, ha, hg, hl⟩ := h.2 hne
  exact ⟨g, o, ha, hg, hl k s hs⟩
theorem Il.nil (w : World) : Il w none 0 [] := ⟨fun _ => rfl, fun h => absurd rfl h⟩
theorem info_int : (Try.prog.info? 3).map (fun i => (i.zero, i.size, i.bytes)) = some (some (.int .i64 0), 1, 8) := by kernel_rfl
/-- The values of a list of numbers. -/
def cellsI (l : List Int) : List Value := l.map (.int .i64)
theorem cellsI_length (l : List Int) : (cellsI l).length = l.length := by simp [cellsI]
theorem cellsI_append (l r : List Int) : cellsI (l ++ r) = cellsI l ++ cellsI r := by simp [cellsI]
theorem cellsI_at {l : List Int} {i : Nat} {s : Int} (h : l[i]? = some s) : (cellsI l)[i]? = some (.int .i64 s) := by simp [cellsI, h]
theorem cellsI_one (l : List Int) : ∀ u ∈ cellsI l, u.oneCell' = true := by
  intro u hu
  obtain ⟨s, _, rfl⟩ := List.mem_map.1 hu
  rfl
theorem RowI.cells {w : World} {b o : Nat} {l : List Int} (h : RowI w b o l) : ∀ (j : Nat) (u : Value), (cellsI l)[j]? = some u → w.cell? ((⟨b, o, none⟩ : Addr).add j) = some u := by
  intro j u hj
  have hlt : j < l.length := by
    have := (List.getElem?_eq_some_iff.1 hj).1
    rwa [cellsI_length] at this
  obtain ⟨s, hs⟩ := at_lt hlt
  rw [Go.WideShapes.add_plain, h j s hs, ← cellsI_at hs, hj]
/-- The slice v is the call's own (in a block from base on) and holds the numbers of l. -/
def OwnI (w : World) (base : Nat) (v : Value) (l : List Int) : Prop := w.ownsRow base 3 1 v l.length (cellsI l)
theorem OwnI.il {w : World} {base : Nat} {v : Value} {l : List Int} (h : OwnI w base v l) : ∃ a c, v = .slice a l.length c ∧ Il w a c l := by
  obtain ⟨h1, h2 | ⟨g, cap, cur, hv, hg, hh, hn, hm, hs, hx⟩⟩ := h
  · obtain ⟨rfl, hl⟩ := h2
    obtain rfl := List.eq_nil_of_length_eq_zero hl
    exact ⟨none, 0, rfl, Il.nil w⟩
  · refine ⟨_, cap, hv, fun h => (by cases h), fun _ => ⟨g, 0, rfl, lt_of_block hh, fun i s hi => ?_⟩⟩
    have hil := (List.getElem?_eq_some_iff.1 hi).1
    have c1 := cellsI_at hi
    rw [← hx] at c1
    rw [List.getElem?_take_of_lt (by omega)] at c1
    rw [Nat.zero_add]
    simp only [World.cell?, hh]; simpa using c1
theorem OwnI.later {W wr : World} {base : Nat} {v : Value} {l : List Int} (h : OwnI W base v l) (hb : Below W.heap.size W wr) : OwnI wr base v l := by
  obtain ⟨h1, h2 | ⟨g, cap, cur, hv, hg, hh, hn, hm, hs, hx⟩⟩ := h
  · exact ⟨h1, .inl h2⟩
  · exact ⟨h1, .inr ⟨g, cap, cur, hv, hg, (hb.block g (lt_of_block hh)).trans hh, hn, hm, hs, hx⟩⟩
theorem OwnI.nil (w : World) (base : Nat) : OwnI w base (.slice none 0 0) [] := World.ownsRow_nil _ _ _ _
theorem OwnI.block {w : World} {base : Nat} {v : Value} {l : List Int} (h : OwnI w base v l) : ∀ k, v.ownBlock = some k → base ≤ k := by
  intro k hk
  obtain ⟨h1, ⟨rfl, _⟩ | ⟨g, cap, cur, rfl, hg, _⟩⟩ := h
  · simp [Value.ownBlock] at hk
  · simp [Value.ownBlock] at hk
    omega
theorem OwnI.blt {w : World} {base : Nat} {v : Value} {l : List Int} (h : OwnI w base v l) : ∀ k, v.ownBlock = some k → k < w.heap.size := by
  intro k hk
  obtain ⟨h1, ⟨rfl, _⟩ | ⟨g, cap, cur, rfl, hg, hh, _⟩⟩ := h
  · simp [Value.ownBlock] at hk
  · simp [Value.ownBlock] at hk
    have := lt_of_block hh
    omega
theorem OwnI.mono {w : World} {base B : Nat} {v : Value} {d : List Int} (h : OwnI w B v d) (hb : base ≤ B) : OwnI w base v d := by
  obtain ⟨h1, h2 | ⟨g, cap, cur, hv, hg, rest⟩⟩ := h
  · exact ⟨h1, .inl h2⟩
  · exact ⟨h1, .inr ⟨g, cap, cur, hv, Nat.le_trans hb hg, rest⟩⟩
theorem OwnI.form {w : World} {base : Nat} {v : Value} {l : List Int} (h : OwnI w base v l) : ∃ a cap, v = .slice a l.length cap := by
  obtain ⟨a, c, hv, _⟩ := h.il
  exact ⟨a, c, hv⟩
theorem OwnI.at {w : World} {base : Nat} {a : Option Addr} {n c : Nat} {l : List Int} (h : OwnI w base (.slice a n c) l) : Il w a c l := by
  obtain ⟨a', c', hv, hi⟩ := h.il
  simp only [Value.slice.injEq] at hv
  obtain ⟨rfl, _, rfl⟩ := hv
  exact hi
theorem own_emptyI (X : World) (n base : Nat) (h : X.heap.size = n) (hb : base ≤ n) : OwnI (X.alloc (.cells #[] 3)) base (.slice (some ⟨n, 0, none⟩) 0 0) [] := by
  subst h
  refine ⟨rfl, .inr ⟨X.heap.size, 0, #[], rfl, hb, ?_, Nat.le_refl _, Nat.zero_le _, rfl, rfl⟩⟩
  show (X.heap.push _)[X.heap.size]? = _
  simp
theorem grown_belowI {B base : Nat} {x w w' : World} {v : Value} {d : List Int} (h : Below B x w) (hown : OwnI w base v d) (hB : B ≤ base) (hw : B ≤ w.heap.size) (hg : w.grownBy w' v.ownBlock) : Below B x w' :=
  h.grown hg hw (fun k hk => Nat.le_trans hB (hown.block k hk))
/-- append to a list of numbers that is the call's own, at any slice of numbers. -/
theorem append_i {w : World} {ops : Array Oper} {rest : List Oper} {o : Oper} {a : Act} {Q : Exit → Act → World → Prop} (hgd : o.guard = none) (s x : Operand)
    (ho : o.op = .call { callee := .builtin .append, args := #[s, x], argTypes := #[23, 23] })
    (base : Nat) (v : Value) (d : List Int) (hs : a.eval s = v) (hown : OwnI w base v d) (ad : Option Addr) (n cap : Nat) (l : List Int) (hx : a.eval x = .slice ad n cap) (hn : n = l.length) (hsl : Il w ad cap l)
    (hlen : d.length + l.length ≤ 4000000) (hbase : base ≤ w.heap.size)
    (h : ∀ v' w', OwnI w' base v' (d ++ l) → w.grownBy w' v.ownBlock → wpList Try.prog ops Q rest (a.put o.dst v') w') : wpList Try.prog ops Q (o :: rest) a w := by
  subst hn
  obtain ⟨i0, hi, hz0, hz1, hz2⟩ := info_parts info_int
  obtain ⟨hn, hr⟩ := hsl
  cases ad with
  | none =>
    obtain rfl : cap = 0 := hn rfl
    obtain rfl : l = [] := by
      apply Classical.byContradiction
      intro hne
      obtain ⟨_, _, h, _⟩ := hr hne
      cases h
    refine wpList_append_own_none hgd s x 23 ho base 3 i0 1 Try.underlying23 hi v d.length (cellsI d) hs hown hx ?_
    exact h v w (by rw [List.append_nil]; exact hown) ⟨rfl, rfl, rfl, Nat.le_refl _, fun _ _ _ => rfl⟩
  | some ad =>
    have hc : ∀ (j : Nat) (u : Value), (cellsI l)[j]? = some u → w.cell? (ad.add j) = some u := by
      intro j u hj
      have hne : l ≠ [] := by rintro rfl; simp [cellsI] at hj
      obtain ⟨g, o', ha, _, hrow⟩ := hr hne
      simp only [Option.some.injEq] at ha
      subst ha
      exact hrow.cells j u hj
    refine wpList_append_own _ hgd s x 23 ho base 3 i0 (.int .i64 0) 1 8 Try.underlying23 hi hz0 hz1 hz2 rfl (by decide) v d.length (cellsI d) hs hown ad l.length cap (cellsI l) hx (by rw [cellsI_length]; omega) hc (cellsI_one l) (by unfold maxLen; omega) (by omega) hbase ?_
    intro v' w' h2 h3 _
    refine h v' w' ?_ h3
    show w'.ownsRow base _ 1 v' _ _
    rw [List.length_append, cellsI_append]
    exact h2
/-- The slice of one number that has just been laid. -/
theorem one_newI (X : World) (s : Int) (n : Nat) (h : X.heap.size = n) : Il (X.alloc (.cells #[.int .i64 s] 3)) (some ⟨n, 0, none⟩) 1 [s] := by
  subst h
  refine ⟨fun h => (by cases h), fun _ => ⟨X.heap.size, 0, rfl, by simp, fun i x hi => ?_⟩⟩
  cases i with
  | zero =>
    simp only [List.getElem?_cons_zero, Option.some.injEq] at hi
    subst hi
    exact (box1_new X _ _).c
  | succ i => simp at hi
/-- The slice of a row of numbers that has been laid. -/
theorem il_row {W : World} {b : Nat} {l : List Int} {cs : Array Value} (h : W.heap[b]? = some (.cells cs 3 (0, 0))) (hc : cs = (cellsI l).toArray) (c : Nat) : Il W (some ⟨b, 0, none⟩) c l := by
  subst hc
  refine ⟨fun h => (by cases h), fun _ => ⟨b, 0, rfl, lt_of_block h, fun i s hi => ?_⟩⟩
  rw [Nat.zero_add, cell_of_row W b _ _ _ _ h]
  simpa using cellsI_at hi

/-- A shard as a value. -/
def shV (s : Sh) : Value := .agg #[.string s.sp.1, .string s.sp.2, .slice s.na s.nodes.length s.nc]
/-- From offset o on, block g holds the shards of l, three cells each; and what their nodes are. -/
def RowS (w : World) (g o : Nat) (l : List Sh) : Prop := ∀ (i : Nat) s, l[i]? = some s → w.cell? ⟨g, o + i * 3, none⟩ = some (.string s.sp.1) ∧ w.cell? ⟨g, o + i * 3 + 1, none⟩ = some (.string s.sp.2) ∧ w.cell? ⟨g, o + i * 3 + 2, none⟩ = some (.slice s.na s.nodes.length s.nc)
def NodesAt (w : World) (l : List Sh) : Prop := ∀ s ∈ l, Il w s.na s.nc s.nodes
/-- The slice at a holds the shards of l. -/
def Hl (w : World) (a : Option Addr) (l : List Sh) : Prop := NodesAt w l ∧ (l ≠ [] → ∃ g o, a = some ⟨g, o, none⟩ ∧ g < w.heap.size ∧ RowS w g o l)
theorem Hl.later {W wr : World} {a : Option Addr} {l : List Sh} (h : Hl W a l) (hw : Below W.heap.size W wr) : Hl wr a l := by
  refine ⟨fun s hs => (h.1 s hs).later hw, fun hne => ?_⟩
  obtain ⟨g, o, ha, hg, hl⟩ := h.2 hne
  exact ⟨g, o, ha, Nat.lt_of_lt_of_le hg hw.size, fun i s hi => ⟨cell_in hw hg (hl i s hi).1, cell_in hw hg (hl i s hi).2.1, cell_in hw hg (hl i s hi).2.2⟩⟩
theorem Hl.at {w : World} {a : Option Addr} {l : List Sh} (h : Hl w a l) {k : Nat} {s : Sh} (hs : l[k]? = some s) : ∃ g o, a = some ⟨g, o, none⟩ ∧ g < w.heap.size ∧ w.cell? ⟨g, o + k * 3, none⟩ = some (.string s.sp.1) ∧ w.cell? ⟨g, o + k * 3 + 1, none⟩ = some (.string s.sp.2) ∧ w.cell? ⟨g, o + k * 3 + 2, none⟩ = some (.slice s.na s.nodes.length s.nc) := by
  have hne : l ≠ [] := by rintro rfl; simp at hs
  obtain ⟨g, o, ha, hg, hl⟩ := h.2 hne
  exact ⟨g, o, ha, hg, hl k s hs⟩

theorem quorum_any (s : Sh) (w : World) : Calls Try.prog 36 #[shV s] w fun e w' => e = .returned (.int .i64 (wrap64 (wrap64 ((s.nodes.length : Int).tdiv 2) + 1))) ∧ Below w.heap.size w w' := by
  unfold shV
  go_enter Try.func36, Try.ntmps36
  go_wp2
  go_ret
  exact ⟨rfl, blAlloc (Below.refl _ _) _⟩
theorem isNode_any (n : Int) (w : World) : Calls Try.prog 58 #[.int .i64 n] w fun e w' => e = .returned (.bool (nodeB n)) ∧ w = w' := by
  by_cases h1 : 1 ≤ n
  · by_cases h2 : n ≤ 7
    · have hv : nodeB n = true := by simp [nodeB, h1, h2]
      have hd1 : decide (1 ≤ n) = true := decide_eq_true h1
      have hd2 : decide (n ≤ 7) = true := decide_eq_true h2
      rw [hv]
      go_enter Try.func58, Try.ntmps58
      go_wp2
      go_ret
      exact ⟨rfl, rfl⟩
    · have hv : nodeB n = false := by simp [nodeB, h2]
      have hd1 : decide (1 ≤ n) = true := decide_eq_true h1
      have hd2 : decide (n ≤ 7) = false := decide_eq_false h2
      rw [hv]
      go_enter Try.func58, Try.ntmps58
      go_wp2
      go_ret
      exact ⟨rfl, rfl⟩
  · have hv : nodeB n = false := by simp [nodeB, h1]
    have hd1 : decide (1 ≤ n) = false := decide_eq_false h1
    rw [hv]
    go_enter Try.func58, Try.ntmps58
    go_wp2
    go_ret
    exact ⟨rfl, rfl⟩

end Go.Proofs.Ytopogdfmbdbimaa
