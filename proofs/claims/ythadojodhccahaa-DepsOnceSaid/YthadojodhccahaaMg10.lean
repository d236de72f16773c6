/- The reference's Sort: the list of these, each once, rising. Conditions: a list of at most a million stamps. -/
import Derived.Deep.RegionHeld
import Derived.Test.YthadojodhccahaaMg09
/- The reference's Add: one stamp more, in its place, unless it is there. Conditions: a list of at most a million stamps. -/
set_option linter.unusedSimpArgs false
namespace Go.Proofs.Ythadojodhccahaa
namespace S1
open Go.Sort (grow)
open Go.RowKit

theorem addL_at (s : Int × Int) : ∀ (l : List (Int × Int)) (k : Nat), (∀ j y, j < k → l[j]? = some y → ltS y s = true) → (∀ y, l[k]? = some y → ltS y s = false) → k ≤ l.length →
    addL l s = if l[k]? = some s then l else l.take k ++ ([s] ++ l.drop k)
  | [], k, _, _, hk => by
    obtain rfl : k = 0 := by simpa using hk
    simp [addL]
  | x :: r, 0, _, h2, _ => by
    have hx := h2 x rfl
    unfold addL
    rw [if_neg (by rw [hx]; simp)]
    by_cases hs : x = s
    · subst hs
      simp
    · rw [if_neg hs, if_neg (by simpa using hs)]
      rfl
  | x :: r, k + 1, h1, h2, hk => by
    have hx := h1 0 x (Nat.succ_pos _) rfl
    have ih := addL_at s r k (fun j y hj hy => h1 (j + 1) y (by omega) (by simpa using hy)) (fun y hy => h2 y (by simpa using hy)) (by simpa using hk)
    unfold addL
    rw [if_pos hx, ih]
    simp only [List.getElem?_cons_succ, List.take_succ_cons, List.drop_succ_cons, List.cons_append]
    split <;> rfl

/-- The same, of one operation. -/
theorem wp_append_st {w : World} {o : Oper} {a : Act} {K : Act → World → Prop} {Q : Exit → Act → World → Prop} (s x : Operand)
    (ho : o.op = .call { callee := .builtin .append, args := #[s, x], argTypes := #[30, 30] })
    (base : Nat) (v : Value) (d : List (Int × Int)) (hs : a.eval s = v) (hown : OwnL w base v d) (ad : Option Addr) (cap : Nat) (l : List (Int × Int)) (hx : a.eval x = .slice ad l.length cap) (hsl : SL w ad l) (hn : ad = none → cap = 0)
    (hlen : d.length + l.length ≤ 4000000) (hbase : base ≤ w.heap.size)
    (h : ∀ v' w', OwnL w' base v' (d ++ l) → w.grownBy w' v.ownBlock → K (a.put o.dst v') w') : o.wp Try.prog a w K Q := by
  obtain ⟨i0, hi, hz0, hz1, hz2⟩ := info_parts info_st
  rcases src_of hsl with rfl | ⟨ad, rfl, hc⟩
  · obtain rfl : cap = 0 := hn rfl
    obtain rfl : l = [] := by
      apply Classical.byContradiction
      intro hne
      obtain ⟨_, _, h, _⟩ := hsl hne
      cases h
    have hx' : a.eval x = .slice none 0 0 := hx
    have hrun := run_append_owned_none (P := Try.prog) (w := w) base 30 o.type 24 i0 2 Try.underlying30 hi v d.length (cellsL d) hown
    unfold Oper.wp
    simp [execOp, ho, resolve, invoke, builtin, hs, hx', hrun, Result.andThen]
    exact (h v w (by rw [List.append_nil]; exact hown) ⟨rfl, rfl, rfl, Nat.le_refl _, fun _ _ _ => rfl⟩)
  · refine wp_append_own w s x 30 ho base 24 i0 (.agg #[.int .i64 0, .int .i64 0]) 2 16 Try.underlying30 hi hz0 hz1 hz2 rfl (by decide) v d.length (cellsL d) hs hown ad l.length cap (cellsL l) hx (cellsL_length l) (hc w (Below.refl _ _)) (cellsL_one l) (by unfold maxLen; omega) (by omega) hbase ?_
    intro v' w' h2 h3 _
    refine h v' w' ?_ h3
    show w'.ownsRow base _ 2 v' _ _
    rw [List.length_append, cellsL_append]
    exact h2

/-- What the reference's Add returns. -/
def RetA (w : World) (l : List (Int × Int)) (e : Ending) (w' : World) : Prop := ∃ a cap, e = .returned (.slice a l.length cap) ∧ SL w' a l ∧ (a = none → cap = 0) ∧ l.length ≤ cap ∧ Below w.heap.size w w'
theorem reta_own {w w' : World} {base : Nat} {v : Value} {l r : List (Int × Int)} (he : l = r) (h : OwnL w' base v r) (hb : w.heap.size ≤ base) (hB : Below w.heap.size w w') : RetA w l (.returned v) w' := by
  subst he
  obtain ⟨a, c, h1, h2, h3, _, h4, _, h5⟩ := h.retc hb hB
  exact ⟨a, c, h1, h2, h3, h4, h5⟩
theorem sl_take {w : World} {a : Option Addr} {l : List (Int × Int)} (h : SL w a l) (k : Nat) : SL w a (l.take k) := by
  intro hne
  have hl : l ≠ [] := by rintro rfl; simp at hne
  obtain ⟨b, o, ha, hb, hlst⟩ := h hl
  refine ⟨b, o, ha, hb, fun i x y hi => hlst i x y ?_⟩
  have hik : i < k := by
    have := (List.getElem?_eq_some_iff.1 hi).1
    simp only [List.length_take] at this
    omega
  rwa [List.getElem?_take_of_lt hik] at hi
theorem sl_drop {w : World} {b o : Nat} {l : List (Int × Int)} (h : SL w (some ⟨b, o, none⟩) l) (k : Nat) : SL w (some ⟨b, o + k * 2, none⟩) (l.drop k) := by
  intro hne
  have hl : l ≠ [] := by rintro rfl; simp at hne
  obtain ⟨b', o', ha, hb, hlst⟩ := h hl
  simp only [Option.some.injEq, Addr.mk.injEq, and_true] at ha
  obtain ⟨rfl, rfl⟩ := ha
  refine ⟨b, o + k * 2, rfl, hb, fun i x y hi => ?_⟩
  rw [List.getElem?_drop] at hi
  have := hlst (k + i) x y hi
  rw [show o + k * 2 + i * 2 = o + (k + i) * 2 by omega]
  exact this
theorem own_emptyL (w : World) : OwnL (w.alloc (.cells #[] 24)) w.heap.size (.slice (some ⟨w.heap.size, 0, none⟩) 0 0) [] := own_empty w
theorem OwnL.monoA {w : World} {base B : Nat} {v : Value} {d : List (Int × Int)} (h : OwnL w B v d) (hb : base ≤ B) : OwnL w base v d := by
  obtain ⟨h1, h2 | ⟨g, cap, cur, hv, hg, hx⟩⟩ := h
  · exact ⟨h1, .inl h2⟩
  · exact ⟨h1, .inr ⟨g, cap, cur, hv, Nat.le_trans hb hg, hx⟩⟩
theorem ownlt {w : World} {base g n c : Nat} {l : List (Int × Int)} (h : OwnL w base (.slice (some ⟨g, 0, none⟩) n c) l) : g < w.heap.size := by
  obtain ⟨h1, ⟨h2, _⟩ | ⟨g', cap, cur, hv, hg, hh, _⟩⟩ := h
  · cases h2
  · simp only [Value.slice.injEq, Option.some.injEq, Addr.mk.injEq] at hv
    obtain ⟨⟨rfl, _⟩, _⟩ := hv
    exact lt_of_block hh
theorem sl_grownA {w w' : World} {v : Value} {l : List (Int × Int)} {a : Option Addr} (h : SL w a l) (hx : ∀ b o, a = some ⟨b, o, none⟩ → v.ownBlock ≠ some b) (hg : w.grownBy w' v.ownBlock) : SL w' a l := by
  intro hne
  obtain ⟨b, o, rfl, hb, hl⟩ := h hne
  refine ⟨b, o, rfl, Nat.lt_of_lt_of_le hb hg.size, fun i x y hi => ?_⟩
  have hbl := hg.block b hb (fun e => hx b o rfl e.symm)
  obtain ⟨c0, c1⟩ := hl i x y hi
  simp only [World.cell?, hbl] at *
  exact ⟨c0, c1⟩

end S1
end Go.Proofs.Ythadojodhccahaa

/- The reference's Sort: the list of these, each once, rising. Conditions: a list of at most a million stamps. -/
namespace Go.Proofs.Ythadojodhccahaa
namespace S1
open Go.Sort (grow)
open Go.RowKit

theorem fold_take (l : List (Int × Int)) (k : Nat) (x : Int × Int) (h : l[k]? = some x) : (l.take (k + 1)).foldl addL [] = addL ((l.take k).foldl addL []) x := by
  rw [List.take_add_one, h, List.foldl_append]
  rfl
theorem fold_len (l : List (Int × Int)) (k : Nat) : ((l.take k).foldl addL []).length ≤ l.length := by
  refine Nat.le_trans (sortL_length (l.take k)) ?_
  simp
  omega

end S1
end Go.Proofs.Ythadojodhccahaa
