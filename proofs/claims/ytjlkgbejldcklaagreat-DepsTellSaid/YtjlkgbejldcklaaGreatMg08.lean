/- append to a list of stamps that is the call's own, at any slice of stamps: nil, empty or not. Conditions: lists of a million stamps or so. -/
import Derived.Laws.AppendOwnNone
import Derived.Test.YtjlkgbejldcklaaGreatMg07
/- append to a list of stamps that is the call's own, at any slice of stamps: nil, empty or not. Conditions: lists of a million stamps or so. -/
namespace Go.Proofs.YtjlkgbejldcklaaGreat
namespace S1
open Go.Sort (grow)
open Go.RowKit

theorem append_st {w : World} {ops : Array Oper} {rest : List Oper} {o : Oper} {a : Act} {Q : Exit → Act → World → Prop} (hgd : o.guard = none) (s x : Operand)
    (ho : o.op = .call { callee := .builtin .append, args := #[s, x], argTypes := #[24, 24] })
    (base : Nat) (v : Value) (d : List (Int × Int)) (hs : a.eval s = v) (hown : OwnL w base v d) (ad : Option Addr) (cap : Nat) (l : List (Int × Int)) (hx : a.eval x = .slice ad l.length cap) (hsl : SL w ad l) (hn : ad = none → cap = 0)
    (hlen : d.length + l.length ≤ 4000000) (hbase : base ≤ w.heap.size)
    (h : ∀ v' w', OwnL w' base v' (d ++ l) → w.grownBy w' v.ownBlock → wpList Tryz.prog ops Q rest (a.put o.dst v') w') : wpList Tryz.prog ops Q (o :: rest) a w := by
  obtain ⟨i0, hi, hz0, hz1, hz2⟩ := info_parts info_st
  rcases src_of hsl with rfl | ⟨ad, rfl, hc⟩
  · obtain rfl : cap = 0 := hn rfl
    obtain rfl : l = [] := by
      apply Classical.byContradiction
      intro hne
      obtain ⟨_, _, h, _⟩ := hsl hne
      cases h
    refine wpList_append_own_none hgd s x 24 ho base 42 i0 2 Tryz.underlying24 hi v d.length (cellsL d) hs hown hx ?_
    exact h v w (by rw [List.append_nil]; exact hown) ⟨rfl, rfl, rfl, Nat.le_refl _, fun _ _ _ => rfl⟩
  · refine wpList_append_own _ hgd s x 24 ho base 42 i0 (.agg #[.int .i64 0, .int .i64 0]) 2 16 Tryz.underlying24 hi hz0 hz1 hz2 rfl (by decide) v d.length (cellsL d) hs hown ad l.length cap (cellsL l) hx (cellsL_length l) (hc w (Below.refl _ _)) (cellsL_one l) (by unfold maxLen; omega) (by omega) hbase ?_
    intro v' w' h2 h3 _
    refine h v' w' ?_ h3
    show w'.ownsRow base _ 2 v' _ _
    rw [List.length_append, cellsL_append]
    exact h2

/-- Behind such an append all that lies ahead of base is as it was. -/
theorem grown_below {B base : Nat} {x w w' : World} {v : Value} {d : List (Int × Int)} (h : Below B x w) (hown : OwnL w base v d) (hB : B ≤ base) (hw : B ≤ w.heap.size) (hg : w.grownBy w' v.ownBlock) : Below B x w' :=
  h.grown hg hw (fun k hk => Nat.le_trans hB (hown.block k hk))

end S1
end Go.Proofs.YtjlkgbejldcklaaGreat
