/- stamp.Merge: it returns a list of its own, in which the stamps of all lists rise, each once. Conditions: a thousand lists at most, a million stamps in all. -/
import Derived.Deep.Upon
import Derived.Test.YtjlbhffdlogflaaMg08
/- append to a list of stamps that is the call's own, or has no room. Conditions: lists of a million stamps or so. -/
namespace Go.Proofs.Ytjlbhffdlogflaa
namespace S1
open Go.Sort (grow)
open Go.RowKit

/-- The slice v holds the stamps of d: it is the call's own, or it has no room. -/
def CapL (w : World) (base : Nat) (v : Value) (d : List (Int × Int)) : Prop := OwnL w base v d ∨ ∃ a, v = .slice a d.length d.length ∧ SL w a d
theorem SL.none_nil {w : World} {d : List (Int × Int)} (h : SL w none d) : d = [] := by
  apply Classical.byContradiction
  intro hne
  obtain ⟨_, _, h, _⟩ := h hne
  cases h
theorem OwnL.mono {w : World} {base B : Nat} {v : Value} {d : List (Int × Int)} (h : OwnL w B v d) (hb : base ≤ B) : OwnL w base v d := by
  obtain ⟨h1, h2 | ⟨g, cap, cur, hv, hg, hx⟩⟩ := h
  · exact ⟨h1, .inl h2⟩
  · exact ⟨h1, .inr ⟨g, cap, cur, hv, Nat.le_trans hb hg, hx⟩⟩
theorem CapL.later {W wr : World} {base : Nat} {v : Value} {l : List (Int × Int)} (h : CapL W base v l) (hb : Below W.heap.size W wr) : CapL wr base v l := by
  rcases h with h | ⟨a, hv, hs⟩
  · exact .inl (h.later hb)
  · exact .inr ⟨a, hv, hs.later hb⟩
theorem CapL.slice {w : World} {base : Nat} {v : Value} {l : List (Int × Int)} (h : CapL w base v l) : ∃ a cap, v = .slice a l.length cap ∧ SL w a l ∧ (a = none → cap = 0) := by
  rcases h with h | ⟨a, hv, hs⟩
  · obtain ⟨a, cap, hv, hs, hn, _⟩ := h.sl
    exact ⟨a, cap, hv, hs, hn⟩
  · exact ⟨a, _, hv, hs, fun h => by subst h; rw [hs.none_nil]; rfl⟩

theorem append_cap {w : World} {ops : Array Oper} {rest : List Oper} {o : Oper} {a : Act} {Q : Exit → Act → World → Prop} (hgd : o.guard = none) (s x : Operand)
    (ho : o.op = .call { callee := .builtin .append, args := #[s, x], argTypes := #[37, 37] })
    (base : Nat) (v : Value) (d : List (Int × Int)) (hs : a.eval s = v) (hown : CapL w base v d) (ad : Option Addr) (cap : Nat) (l : List (Int × Int)) (hx : a.eval x = .slice ad l.length cap) (hsl : SL w ad l) (hn : ad = none → cap = 0)
    (hlen : d.length + l.length ≤ 4000000) (hbase : base ≤ w.heap.size)
    (h : ∀ v' w', CapL w' base v' (d ++ l) → (∀ (B : Nat) (x : World), Below B x w → B ≤ base → Below B x w') → wpList Try.prog ops Q rest (a.put o.dst v') w') : wpList Try.prog ops Q (o :: rest) a w := by
  have viaOwn : OwnL w base v d → wpList Try.prog ops Q (o :: rest) a w := fun hown =>
    append_st hgd s x ho base v d hs hown ad cap l hx hsl hn hlen hbase fun v' w' h1 h2 => h v' w' (.inl h1) fun B x hB hb => grown_below hB hown hb (Nat.le_trans hb hbase) h2
  rcases hown with hown | ⟨a0, rfl, hsl0⟩
  · exact viaOwn hown
  obtain ⟨i0, hi, hz0, hz1, hz2⟩ := info_parts info_st
  by_cases hl : l = []
  · subst hl
    have hsrc : Src Try.prog i0.size 37 (.slice ad 0 cap) 0 [] w := by
      cases ad with
      | none => exact Src.ofNil w Try.underlying37 cap
      | some ad => exact Src.ofSlice w Try.underlying37 ad 0 cap [] (by simp) (fun j u h => by simp at h) (fun u h => by simp at h)
    have hrun := run_append_nothing w 37 37 o.type 33 i0 Try.underlying37 hi a0 d.length d.length (Nat.le_refl _) _ hsrc
    have hx' : a.eval x = .slice ad 0 cap := hx
    refine wpList_plain hgd fun K hK => ?_
    unfold Oper.wp
    simp [execOp, ho, resolve, invoke, builtin, hs, hx', hrun, Result.andThen]
    exact hK _ _ (h _ w (by rw [List.append_nil]; exact .inr ⟨a0, rfl, hsl0⟩) fun B x hB _ => hB)
  · cases a0 with
    | none =>
      obtain rfl := hsl0.none_nil
      exact viaOwn (OwnL.nil w base)
    | some b0 =>
      obtain ⟨b1, o1, rfl, hb1, hl1⟩ := hsl hl
      have hpos : 0 < l.length := List.length_pos_iff.2 hl
      have hc0 : ∀ (j : Nat) (u : Value), (cellsL d)[j]? = some u → w.cell? (b0.add j) = some u := by
        rcases src_of hsl0 with h | ⟨ad, he, hc⟩
        · cases h
        · simp only [Option.some.injEq] at he
          subst he
          exact hc w (Below.refl _ _)
      obtain ⟨v', w', hrun, hown, hg⟩ := run_append_arg_grows (P := Try.prog) w 37 o.type 33 i0 (.agg #[.int .i64 0, .int .i64 0]) 2 16 Try.underlying37 hi hz0 hz1 hz2 rfl (by decide)
        b0 d.length d.length (cellsL d) (cellsL_length d) hc0 ⟨b1, o1, none⟩ l.length cap (cellsL l) (cellsL_length l) hl1.cells (by omega) (by unfold maxLen; omega) (by omega)
      have hO : OwnL w' w.heap.size v' (d ++ l) := by
        show w'.ownsRow _ _ 2 v' _ _
        rw [List.length_append, cellsL_append]
        exact hown
      refine wpList_plain hgd fun K hK => ?_
      unfold Oper.wp
      simp [execOp, ho, resolve, invoke, builtin, hs, hx, hrun, Result.andThen]
      exact hK _ _ (h v' w' (.inl (hO.mono hbase)) fun B x hB hb => hB.grown hg (Nat.le_trans hb hbase) (fun k hk => by cases hk))

end S1
end Go.Proofs.Ytjlbhffdlogflaa

/- stamp.Merge: it returns a list of its own, in which the stamps of all lists rise, each once. Conditions: a thousand lists at most, a million stamps in all. -/
namespace Go.Proofs.Ytjlbhffdlogflaa
namespace S1
open Go.Sort (grow)
open Go.RowKit

abbrev LRow := Option Addr × List (Int × Int) × Nat
/-- The lists of ls lie one behind the other in block b, from cell o on. -/
def LL (w : World) (b o : Nat) (ls : List LRow) : Prop := ∀ (i : Nat) (a : Option Addr) (l : List (Int × Int)) (c : Nat), ls[i]? = some (a, l, c) → w.cell? ⟨b, o + i, none⟩ = some (.slice a l.length c) ∧ SL w a l ∧ (a = none → c = 0) ∧ l.length ≤ c
theorem LL.later {w wr : World} {b o : Nat} {ls : List LRow} (h : LL w b o ls) (hb : b < w.heap.size) (hw : Below w.heap.size w wr) : LL wr b o ls := fun i a l c hi => by
  obtain ⟨h1, h2, h3, h4⟩ := h i a l c hi
  exact ⟨cell_in hw hb h1, h2.later hw, h3, h4⟩
def allL (ls : List LRow) : List (Int × Int) := ls.flatMap fun r => r.2.1
theorem allL_take (ls : List LRow) (k : Nat) (r : LRow) (h : ls[k]? = some r) : allL (ls.take (k + 1)) = allL (ls.take k) ++ r.2.1 := by
  rw [List.take_add_one, h]
  simp [allL]
theorem allL_take_len (ls : List LRow) (k : Nat) : (allL (ls.take k)).length ≤ (allL ls).length := by
  have h : allL ls = allL (ls.take k) ++ allL (ls.drop k) := by
    unfold allL
    rw [← List.flatMap_append, List.take_append_drop]
  rw [h, List.length_append]
  omega
theorem row_at {ls : List LRow} {k : Nat} (h : k < ls.length) : ∃ a l c, ls[k]? = some (a, l, c) := ⟨_, _, _, List.getElem?_eq_getElem h⟩

set_option maxRecDepth 100000 in
set_option maxHeartbeats 1000000 in
theorem merge_none (w : World) : Calls Try.prog 25 #[.slice none 0 0] w fun e w' => e = .returned (.slice none 0 0) ∧ w = w' := by
  go_enter Try.func25, Try.ntmps25
  go_wp2
  go_ret
  exact ⟨rfl, rfl⟩

end S1
end Go.Proofs.Ytjlbhffdlogflaa
