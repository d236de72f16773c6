/- DepsParts: whatever the dependencies, shards and stamps, the law returns true: parted by shards, and merged, they are the same; what is taken away is in none. Conditions: none. -/
import Derived.BigQuiet
import Derived.WalkSpells
import Derived.Test.YtjlkgbejldcklaaGreatMg43
import Derived.Test.YtjlkgbejldcklaaGreatMg44
import Derived.Test.YtjlkgbejldcklaaGreatMg42
import Derived.Test.YtjlkgbejldcklaaGreatMg38
import Derived.Test.YtjlkgbejldcklaaGreatMg45
import Derived.Test.YtjlkgbejldcklaaGreatMg46
import Derived.Test.YtjlkgbejldcklaaGreatMg48
import Derived.Test.YtjlkgbejldcklaaGreatMg47
import Derived.Test.YtjlkgbejldcklaaGreatMg02
import Derived.Test.YtjlkgbejldcklaaGreatMg11
import Derived.Test.YtjlkgbejldcklaaGreatMg26
/- DepsParts: whatever the dependencies, shards and stamps, the law returns true: parted by shards, and merged, they are the same; what is taken away is in none. Conditions: none. -/
set_option linter.unusedVariables false
set_option linter.unusedSimpArgs false
namespace Go.Proofs.YtjlkgbejldcklaaGreat
open S1 SP
namespace SD
open Go.ChangeShapes Go.WideShapes Go.ChangeAt Go.RowKit Go.Joins Go.Deep

theorem nl_of {w : World} {a : Option Addr} {c : Nat} {l : List Int} (h : S4.Il w a c l) : Nl w a l := fun hne => by
  obtain ⟨g, o, h1, h2, _⟩ := h.2 hne
  refine ⟨g, o, h1, h2, fun i x hi => ?_⟩
  obtain ⟨g', o', e, _, hc⟩ := h.at hi
  rw [h1] at e
  cases e
  exact hc
theorem rest_take {l : List Dp} {k : Nat} {s : Dp} (P : List Int) (hs : l[k]? = some s) : restD (toD (l.take (k + 1))) P = restD (toD (l.take k)) P ++ (if P.any (· == s.sh) = true then [] else [s.sh]) := by
  have e : toD (l.take (k + 1)) = toD (l.take k) ++ [s.d] := by
    unfold toD
    rw [List.take_add_one, hs]
    simp
  rw [e]
  unfold restD
  rw [List.filter_append, List.map_append]
  congr 1
  cases h : P.any (· == s.sh) <;> simp [Dp.d, h]
theorem info_int6 : (Tryz.prog.info? 3).map (fun i => (i.zero, i.size, i.bytes)) = some (some (.int .i64 0), 1, 8) := by kernel_rfl
/-- append of one number to a list of numbers that is the call's own. -/
theorem append_i1 {w : World} {ops : Array Oper} {rest : List Oper} {o : Oper} {a : Act} {Q : Exit → Act → World → Prop} (hgd : o.guard = none) (s x : Operand)
    (ho : o.op = .call { callee := .builtin .append, args := #[s, x], argTypes := #[43, 43] })
    (base : Nat) (v : Value) (d : List Int) (hs : a.eval s = v) (hown : S4.OwnI w base v d) (ad : Addr) (cap : Nat) (y : Int) (hx : a.eval x = .slice (some ad) 1 cap) (hc : w.cell? ad = some (.int .i64 y)) (hcap : 1 ≤ cap)
    (hlen : d.length + 1 ≤ 4000000) (hbase : base ≤ w.heap.size)
    (h : ∀ v' w', S4.OwnI w' base v' (d ++ [y]) → w.grownBy w' v.ownBlock → wpList Tryz.prog ops Q rest (a.put o.dst v') w') : wpList Tryz.prog ops Q (o :: rest) a w := by
  obtain ⟨i0, hi, hz0, hz1, hz2⟩ := info_parts info_int6
  refine wpList_append_own _ hgd s x 43 ho base 3 i0 (.int .i64 0) 1 8 Tryz.underlying43 hi hz0 hz1 hz2 rfl (by decide) v d.length (S4.cellsI d) hs hown ad 1 cap (S4.cellsI [y]) hx (by simp [S4.cellsI]) (fun j u hj => ?_) (fun u hu => ?_) (by unfold maxLen; omega) (by omega) hbase ?_
  · cases j with
    | zero =>
      simp [S4.cellsI] at hj
      subst hj
      have e : ad.add 0 = ad := by simp [Addr.add]
      rw [e]; exact hc
    | succ j => simp [S4.cellsI] at hj
  · simp [S4.cellsI] at hu
    subst hu
    rfl
  · intro v' w' h2 h3 _
    refine h v' w' ?_ h3
    show w'.ownsRow base _ 1 v' _ _
    rw [List.length_append]
    simpa [S4.cellsI] using h2
theorem sl_at {w : World} {a : Option Addr} {l : List (Int × Int)} (h : SL w a l) {k : Nat} {x : Int × Int} (hx : l[k]? = some x) : ∃ g o, a = some ⟨g, o, none⟩ ∧ g < w.heap.size ∧ w.cell? ⟨g, o + k * 2, none⟩ = some (.int .i64 x.1) ∧ w.cell? ⟨g, o + k * 2 + 1, none⟩ = some (.int .i64 x.2) := by
  obtain ⟨g, o, ha, hg, hl⟩ := h (by rintro rfl; simp at hx)
  exact ⟨g, o, ha, hg, hl k x.1 x.2 hx⟩
theorem without_wf {l m : List Dp} {X : List (Int × Int)} (h : toD m = withoutD (toD l) X) (hw : ∀ s ∈ l, ∀ i ∈ s.ids, WfT i) : ∀ s ∈ m, ∀ i ∈ s.ids, WfT i := by
  intro s hs i hi
  have h1 : s.d ∈ withoutD (toD l) X := by rw [← h]; exact List.mem_map.2 ⟨s, hs, rfl⟩
  obtain ⟨y, hy, e⟩ := List.mem_map.1 h1
  obtain ⟨u, hu, rfl⟩ := List.mem_map.1 hy
  have e2 : s.ids = u.ids.filter fun i => !X.contains i := (congrArg Prod.snd e).symm
  rw [e2] at hi
  exact hw u hu i (List.mem_filter.1 hi).1
theorem any_take {P : List Int} {j : Nat} {x : Int} (t : Int) (hx : P[j]? = some x) : (P.take (j + 1)).any (· == t) = ((P.take j).any (· == t) || x == t) := by
  rw [List.take_add_one, hx]
  simp [List.any_append]

theorem depsParts_laid : laidOutB Tryz.prog = true := by kernel_rfl
theorem depsParts_rowed : mapsRowed Tryz.prog = true := by kernel_rfl
end SD
end Go.Proofs.YtjlkgbejldcklaaGreat
