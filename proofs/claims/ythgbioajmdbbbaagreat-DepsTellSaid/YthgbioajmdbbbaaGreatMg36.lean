/- What the reference's Add of Deps wants: the place of a shard; rows of Deps put behind a row, in a region that leaves its order open. -/
import Derived.Test.YthgbioajmdbbbaaGreatMg35
import Derived.Test.YthgbioajmdbbbaaGreatMg22
/- The reference's Lay of Deps. Conditions: lists of at most a million, with a million stamps in all. -/
set_option linter.unusedVariables false
namespace Go.Proofs.YthgbioajmdbbbaaGreat
open S1
namespace SD
open Go.RowKit

/-- The bytes of one; of all. -/
def lay1 (x : Int × List (Int × Int)) : List UInt8 := S2.i8 x.1 ++ S2.sts x.2
def layF (d : Dd) : List UInt8 := d.flatMap lay1
def layD (d : Dd) : List UInt8 := S2.i8 d.length ++ layF d
theorem sts_len (l : List (Int × Int)) : (S2.sts l).length = 8 + 16 * l.length := by
  unfold S2.sts
  rw [List.length_append, S2.i8_length, S2.flat_length S2.st 16 S2.st_length]
theorem layF_len (d : Dd) : (layF d).length = 16 * d.length + 16 * idsN d := by
  unfold layF
  induction d with
  | nil => rfl
  | cons x r ih =>
    rw [List.flatMap_cons, List.length_append, ih, idsN_cons, List.length_cons]
    unfold lay1
    rw [List.length_append, S2.i8_length, sts_len]
    omega
theorem layF_take {l : List Dp} {k : Nat} {s : Dp} (h : l[k]? = some s) : layF ((toD l).take (k + 1)) = layF ((toD l).take k) ++ (S2.i8 s.sh ++ S2.sts s.ids) := by
  unfold layF
  rw [List.take_add_one, toD_at h, List.flatMap_append]
  simp [lay1]
/-- Stamps that lay there before the row did. -/
theorem sl_two {w0 w : World} {g : Option Nat} {a : Option Addr} {xs : List (Int × Int)} (h : SL w0 a xs) (hb : Below w0.heap.size w0 w) (hg : ∀ k, g = some k → w0.heap.size ≤ k) : ∃ g2, S2.SL w g2 a xs ∧ g ≠ some g2 := by
  by_cases hne : xs = []
  · refine ⟨g.getD 0 + 1, fun h => absurd hne h, ?_⟩
    cases g <;> simp
  · obtain ⟨b, o, ha, hlt, hl⟩ := h hne
    exact ⟨b, fun _ => ⟨o, ha, fun j x y hx => ⟨cell_in hb hlt (hl j x y hx).1, cell_in hb hlt (hl j x y hx).2⟩⟩, fun e => by have := hg b e; omega⟩
theorem row_ge {B : Nat} {g g' : Option Nat} {w w' : World} (h : S2.RowStep g g' w w') (hB : B ≤ w.heap.size) (hg : ∀ k, g = some k → B ≤ k) : ∀ k, g' = some k → B ≤ k := by
  intro k hk
  rcases h.row with e | e
  · exact hg k (e ▸ hk)
  · exact Nat.le_trans hB (e k hk)

end SD
end Go.Proofs.YthgbioajmdbbbaaGreat

/- What the reference's Add of Deps wants: the place of a shard; rows of Deps put behind a row, in a region that leaves its order open. -/
set_option linter.unusedVariables false
namespace Go.Proofs.YthgbioajmdbbbaaGreat
open S1
namespace SD
open Go.RowKit

/-- All ahead of place k are less: what Add comes to. -/
theorem addD_at : ∀ {k : Nat} {d : Dd} {s : Int} (l : List (Int × Int)), k ≤ d.length → (∀ x ∈ d.take k, x.1 < s) →
    (d.length = k → addD d s l = d.take k ++ (s, sortL l) :: d.drop k) ∧
    (∀ x, d[k]? = some x → x.1 = s → addD d s l = d.take k ++ (s, sortL (x.2 ++ l)) :: d.drop (k + 1)) ∧
    (∀ x, d[k]? = some x → s < x.1 → addD d s l = d.take k ++ (s, sortL l) :: d.drop k) := by
  intro k
  induction k with
  | zero =>
    intro d s l _ _
    cases d with
    | nil => exact ⟨fun _ => rfl, fun x h => (by simp at h), fun x h => (by simp at h)⟩
    | cons y r =>
      refine ⟨fun h => (by simp at h), fun x h he => ?_, fun x h hl => ?_⟩
      · simp only [List.getElem?_cons_zero, Option.some.injEq] at h
        subst h
        rw [addD_cons, if_neg (by omega), if_pos he]
        rfl
      · simp only [List.getElem?_cons_zero, Option.some.injEq] at h
        subst h
        rw [addD_cons, if_neg (by omega), if_neg (by omega)]
        rfl
  | succ k ih =>
    intro d s l hk h
    cases d with
    | nil => simp at hk
    | cons y r =>
      have hy : y.1 < s := h y (by simp)
      obtain ⟨h1, h2, h3⟩ := ih (d := r) (s := s) l (by simpa using hk) fun x hx => h x (by simp [hx])
      rw [addD_cons, if_pos hy]
      refine ⟨fun e => ?_, fun x hx he => ?_, fun x hx hl => ?_⟩
      · rw [h1 (by simpa using e)]
        rfl
      · rw [h2 x (by simpa using hx) he]
        rfl
      · rw [h3 x (by simpa using hx) hl]
        rfl
/-- The shards ahead of place k + 1 are less where those ahead of k are, and that at k. -/
theorem less_take {d : Dd} {k : Nat} {x : Int × List (Int × Int)} {s : Int} (h : d[k]? = some x) (ht : ∀ y ∈ d.take k, y.1 < s) (hx : x.1 < s) : ∀ y ∈ d.take (k + 1), y.1 < s := by
  intro y hy
  rw [List.take_add_one, h, List.mem_append] at hy
  rcases hy with hy | hy
  · exact ht y hy
  · simp only [Option.toList, List.mem_singleton] at hy
    subst hy
    exact hx
theorem toD_take (l : List Dp) (k : Nat) : toD (l.take k) = (toD l).take k := by simp [toD, List.map_take]
theorem toD_drop (l : List Dp) (k : Nat) : toD (l.drop k) = (toD l).drop k := by simp [toD, List.map_drop]
theorem toD_append (a b : List Dp) : toD (a ++ b) = toD a ++ toD b := by simp [toD]
/-- A part of a row lies where the row does. -/
theorem rowD_drop {w : World} {g o : Nat} {l : List Dp} (h : RowD w g o l) (k : Nat) : RowD w g (o + k * 2) (l.drop k) := by
  intro i s hi
  rw [List.getElem?_drop] at hi
  obtain ⟨h1, h2⟩ := h (k + i) s hi
  exact ⟨by rw [← h1]; congr 2; omega, by rw [← h2]; congr 2; omega⟩
theorem rowD_take {w : World} {g o : Nat} {l : List Dp} (h : RowD w g o l) (k : Nat) : RowD w g o (l.take k) := by
  intro i s hi
  have hlt : i < k := by
    have := (List.getElem?_eq_some_iff.1 hi).1
    rw [List.length_take] at this
    omega
  rw [List.getElem?_take_of_lt hlt] at hi
  exact h i s hi
/-- append of Deps to a row of the call's own, as a step of a region that leaves its order open. -/
theorem step_dps {ops : Array Oper} {o : Oper} {a : Act} {w : World} {K : Act → World → Prop} {Q : Exit → Act → World → Prop} {E : Prop} (hg : o.guard = none) (s x : Operand)
    (ho : o.op = .call { callee := .builtin .append, args := #[s, x], argTypes := #[29, 29] }) (base : Nat) {v : Value} {d : List Dp} {g off n cap : Nat} {m : List Dp} (hs : a.eval s = v) (hx : a.eval x = .slice (some ⟨g, off, none⟩) n cap) (hn : n = m.length)
    (hown : OwnD w base v d) (hc : RowD w g off m) (hlen : d.length + m.length ≤ 4000000) (hbase : base ≤ w.heap.size)
    (h : ∀ v' w', OwnD w' base v' (d ++ m) → w.grownBy w' v.ownBlock → (v'.ownBlock = v.ownBlock ∨ v'.ownBlock = some w.heap.size) → K (a.put o.dst v') w') :
    if Region.wanted o (yielded ops a.tmps) = true then Oper.wp Tryz.prog o a w K Q else E := by
  have hw : Region.wanted o (yielded ops a.tmps) = true := by simp [Region.wanted, hg]
  rw [if_pos hw]
  subst hn
  obtain ⟨i0, hi, hz0, hz1, hz2⟩ := info_parts info_dp
  obtain ⟨v', w', hr, h2, h3, _, h5⟩ := run_append_own_at (P := Tryz.prog) w base 29 o.type 51 i0 (.agg #[.int .i64 0, .slice none 0 0]) 2 32 Tryz.underlying29 hi hz0 hz1 hz2 rfl (by decide) v d.length (cellsD d) hown ⟨g, off, none⟩ m.length cap (cellsD m) (cellsD_length m) hc.cells (cellsD_one m) (by unfold maxLen; omega) (by omega) hbase
  unfold Oper.wp execOp
  simp only [ho, resolve, invoke, builtin, Sem.run_bind, Sem.run_pure, Result.andThen_ok, List.map_toArray, List.map_cons, List.map_nil, hs, hx, hr]
  refine h v' w' ?_ h3 h5
  show w'.ownsRow base _ 2 v' _ _
  rw [List.length_append, cellsD_append]
  exact h2

end SD
end Go.Proofs.YthgbioajmdbbbaaGreat
