/- The reference's Check of Deps. Conditions: lists of at most a million, with a million stamps in all. -/
import Derived.Maps.AppendAt
import Derived.Test.YtjlbhffdlogflaaMg31
/- The reference's Below of Deps. Conditions: lists of at most a million. -/
set_option linter.unusedVariables false
namespace Go.Proofs.Ytjlbhffdlogflaa
open S1
namespace SD
open Go.RowKit

/-- The stamps of each lie in memory, and not in the block of the row itself. -/
def HasG (w : World) (v : Value) (l : List Dp) : Prop := ∀ s ∈ l, IdsAt w s ∧ (s.ids ≠ [] → ∀ p, s.ia = some p → v.ownBlock ≠ some p.block)
theorem HasG.nil (w : World) (v : Value) : HasG w v [] := fun s h => (by cases h)
theorem HasG.later {W wr : World} {v : Value} {l : List Dp} (h : HasG W v l) (hb : Below W.heap.size W wr) : HasG wr v l := fun s hs => ⟨(h s hs).1.later hb, (h s hs).2⟩
theorem idsAt_grown {w w' : World} {v : Value} {s : Dp} (h : IdsAt w s) (hne : s.ids ≠ [] → ∀ p, s.ia = some p → v.ownBlock ≠ some p.block) (hg : w.grownBy w' v.ownBlock) : IdsAt w' s := by
  refine ⟨fun hn => ?_, h.2⟩
  obtain ⟨b, o, ha, hb, hl⟩ := h.1 hn
  have hk := hg.block b hb (fun e => hne hn _ ha e.symm)
  refine ⟨b, o, ha, Nat.lt_of_lt_of_le hb hg.size, fun i x y hi => ?_⟩
  obtain ⟨h1, h2⟩ := hl i x y hi
  exact ⟨(World.cell?_of_block (w := w) hk).trans h1, (World.cell?_of_block (w := w) hk).trans h2⟩
theorem HasG.push {w w' : World} {v v' : Value} {l : List Dp} {m : Dp} (h : HasG w v l) (hm : IdsAt w m) (hmv : m.ids ≠ [] → ∀ p, m.ia = some p → v.ownBlock ≠ some p.block) (hg : w.grownBy w' v.ownBlock) (hv : v'.ownBlock = v.ownBlock ∨ v'.ownBlock = some w.heap.size) : HasG w' v' (l ++ [m]) := by
  have key : ∀ s, IdsAt w s → (s.ids ≠ [] → ∀ p, s.ia = some p → v.ownBlock ≠ some p.block) → IdsAt w' s ∧ (s.ids ≠ [] → ∀ p, s.ia = some p → v'.ownBlock ≠ some p.block) := by
    intro s hs hsv
    refine ⟨idsAt_grown hs hsv hg, fun hn p hp => ?_⟩
    rcases hv with e | e
    · rw [e]
      exact hsv hn p hp
    · rw [e]
      obtain ⟨b, o, ha, hb, _⟩ := hs.1 hn
      rw [ha] at hp
      obtain rfl := Option.some.inj hp
      intro e2
      have := Option.some.inj e2
      simp at this
      omega
  intro s hs
  rcases List.mem_append.1 hs with hs | hs
  · exact key s (h s hs).1 (h s hs).2
  · rw [List.mem_singleton] at hs
    subst hs
    exact key _ hm hmv
theorem apart_g {w w1 w6 : World} {base : Nat} {v : Value} {F : List Dp} {a : Option Addr} {ids : List (Int × Int)} (ho : OwnD w base v F) (h1 : SL w6 a ids) (h3 : ∀ b o, a = some ⟨b, o, none⟩ → w1.heap.size ≤ b) (hle : w.heap.size ≤ w1.heap.size) : ids ≠ [] → ∀ p, a = some p → v.ownBlock ≠ some p.block := by
  intro hn p hp e
  obtain ⟨b, o, ha, _, _⟩ := h1 hn
  rw [ha] at hp
  obtain rfl := Option.some.inj hp
  have := h3 b o ha
  have := (ho.block b e).2
  omega
/-- The cells of one Dep that have just been laid. -/
theorem dp_one {w0 W : World} {m : Dp} {b : Nat} (hb : b = w0.heap.size) (hW : W.heap = (w0.alloc (.cells #[.int .i64 m.sh, ilD m] 39)).heap) : ∀ (j : Nat) (u : Value), (cellsD [m])[j]? = some u → W.cell? ((⟨b, 0, none⟩ : Addr).add j) = some u := by
  have h := one_newD w0 m b hb.symm
  intro j u hj
  have h2 := h.cells j u hj
  have e : W.cell? ((⟨b, 0, none⟩ : Addr).add j) = (w0.alloc (.cells #[.int .i64 m.sh, ilD m] 39)).cell? ((⟨b, 0, none⟩ : Addr).add j) := by
    simp only [World.cell?, hW]
  rw [e]
  exact h2
end SD
end Go.Proofs.Ytjlbhffdlogflaa

/- The reference's Without of Deps. Conditions: lists of at most a million. -/
set_option linter.unusedVariables false
namespace Go.Proofs.Ytjlbhffdlogflaa
open S1
namespace SD
open Go.RowKit

/-- A Dep that a pointer leads to. -/
def Bx (w : World) (b : Nat) (sh : Int) (v : Value) : Prop := w.heap[b]? = some (.cells #[.int .i64 sh, v] 39 (0, 0))
theorem Bx.lt {w : World} {b : Nat} {sh : Int} {v : Value} (h : Bx w b sh v) : b < w.heap.size := lt_of_block h
theorem Bx.c0 {w : World} {b : Nat} {sh : Int} {v : Value} (h : Bx w b sh v) : w.cell? ⟨b, 0, none⟩ = some (.int .i64 sh) := by unfold Bx at h; simp only [World.cell?, h]; rfl
theorem Bx.c1 {w : World} {b : Nat} {sh : Int} {v : Value} (h : Bx w b sh v) : w.cell? ⟨b, 1, none⟩ = some v := by unfold Bx at h; simp only [World.cell?, h]; rfl
theorem Bx.f {w : World} {b : Nat} {sh : Int} {v : Value} (h : Bx w b sh v) (i : Nat) : w.frozen? ⟨b, i, none⟩ = false := by unfold Bx at h; simp [World.frozen?, h]
theorem Bx.later {B : Nat} {w wr : World} {b : Nat} {sh : Int} {v : Value} (h : Bx w b sh v) (hw : Below B w wr) (hb : b < B) : Bx wr b sh v := (hw.block b hb).trans h
/-- append of one Dep to a row of the call's own. -/
theorem append_dp1 {w : World} {ops : Array Oper} {rest : List Oper} {o : Oper} {a : Act} {Q : Exit → Act → World → Prop} (hgd : o.guard = none) (s x : Operand)
    (ho : o.op = .call { callee := .builtin .append, args := #[s, x], argTypes := #[24, 24] }) (base : Nat) {v : Value} {d : List Dp} {ad : Addr} {cap : Nat} {m : Dp} (hs : a.eval s = v) (hx : a.eval x = .slice (some ad) 1 cap)
    (hown : OwnD w base v d) (hc : ∀ (j : Nat) (u : Value), (cellsD [m])[j]? = some u → w.cell? (ad.add j) = some u) (hlen : d.length ≤ 1000000) (hbase : base ≤ w.heap.size)
    (h : ∀ v' w', OwnD w' base v' (d ++ [m]) → w.grownBy w' v.ownBlock → (v'.ownBlock = v.ownBlock ∨ v'.ownBlock = some w.heap.size) → wpList Try.prog ops Q rest (a.put o.dst v') w') : wpList Try.prog ops Q (o :: rest) a w := by
  refine wpList_plain hgd fun _ hK => ?_
  obtain ⟨i0, hi, hz0, hz1, hz2⟩ := info_parts info_dp
  obtain ⟨v', w', hr, h2, h3, _, h5⟩ := run_append_own_at (P := Try.prog) w base 24 o.type 39 i0 (.agg #[.int .i64 0, .slice none 0 0]) 2 32 Try.underlying24 hi hz0 hz1 hz2 rfl (by decide) v d.length (cellsD d) hown ad 1 cap (cellsD [m]) rfl hc (cellsD_one [m]) (by unfold maxLen; omega) (by omega) hbase
  unfold Oper.wp execOp
  simp only [ho, resolve, invoke, builtin, Sem.run_bind, Sem.run_pure, Result.andThen_ok, List.map_toArray, List.map_cons, List.map_nil, hs, hx, hr]
  refine hK _ _ (h v' w' ?_ h3 h5)
  show w'.ownsRow base _ 2 v' _ _
  rw [List.length_append, cellsD_append]
  exact h2
end SD
end Go.Proofs.Ytjlbhffdlogflaa

/- The reference's Check of Deps. Conditions: lists of at most a million, with a million stamps in all. -/
set_option linter.unusedVariables false
namespace Go.Proofs.Ytjlbhffdlogflaa
open S1
namespace SD
open Go.RowKit

/-- The shard behind which the next one must lie. -/
def lastD (p : Int) : Dd → Int
  | [] => p
  | x :: r => lastD x.1 r
theorem depsF_append : ∀ (a b : Dd) (p : Int), depsF p (a ++ b) = (depsF p a && depsF (lastD p a) b) := by
  intro a
  induction a with
  | nil => intro b p; rfl
  | cons x r ih =>
    intro b p
    show depsF p (x :: (r ++ b)) = _
    have e1 : depsF p (x :: (r ++ b)) = (decide (p < x.1) && (decide (x.1 < 8) && (risB x.2 && (x.2.all isS && depsF x.1 (r ++ b))))) := rfl
    have e2 : depsF p (x :: r) = (decide (p < x.1) && (decide (x.1 < 8) && (risB x.2 && (x.2.all isS && depsF x.1 r)))) := rfl
    have e3 : lastD p (x :: r) = lastD x.1 r := rfl
    rw [e1, e2, e3, ih]
    simp only [Bool.and_assoc]
theorem lastD_snoc (a : Dd) (x : Int × List (Int × Int)) : ∀ p, lastD p (a ++ [x]) = x.1 := by
  induction a with
  | nil => intro p; rfl
  | cons y r ih => intro p; exact ih y.1
theorem lastD_take {d : Dd} {k : Nat} {x : Int × List (Int × Int)} (h : d[k]? = some x) (p : Int) : lastD p (d.take (k + 1)) = x.1 := by
  rw [List.take_add_one, h]
  exact lastD_snoc _ _ _
theorem depsF_take {d : Dd} {k : Nat} {x : Int × List (Int × Int)} (h : d[k]? = some x) (ht : depsF (-1) (d.take k) = true) : depsF (-1) (d.take (k + 1)) = (decide (lastD (-1) (d.take k) < x.1) && (decide (x.1 < 8) && (risB x.2 && x.2.all isS))) := by
  rw [List.take_add_one, h]
  show depsF (-1) (d.take k ++ [x]) = _
  rw [depsF_append, ht]
  show (true && (decide _ && (decide _ && (risB x.2 && (x.2.all isS && true))))) = _
  simp
theorem depsF_cut {d : Dd} {k : Nat} (h : depsF (-1) (d.take k) = false) : depsF (-1) d = false := by
  have e := depsF_append (d.take k) (d.drop k) (-1)
  rw [List.take_append_drop, h] at e
  simpa using e
theorem lastD_ge : ∀ {d : Dd} {p : Int}, depsF p d = true → p ≤ lastD p d := by
  intro d
  induction d with
  | nil => intro p _; exact Int.le_refl _
  | cons x r ih =>
    intro p h
    have e : depsF p (x :: r) = (decide (p < x.1) && (decide (x.1 < 8) && (risB x.2 && (x.2.all isS && depsF x.1 r)))) := rfl
    rw [e] at h
    simp only [Bool.and_eq_true, decide_eq_true_eq] at h
    have := ih h.2.2.2.2
    show p ≤ lastD x.1 r
    omega
theorem check_bad {d : Dd} (h1 : d.length ≤ 8) (h2 : idsN d ≤ 512) (h : depsF (-1) d = false) : checkD d = 60 := by
  unfold checkD
  rw [if_neg (by omega), h]
  rfl
theorem check_good {d : Dd} (h1 : d.length ≤ 8) (h2 : idsN d ≤ 512) (h : depsF (-1) d = true) : checkD d = 0 := by
  unfold checkD
  rw [if_neg (by omega), h]
  rfl
theorem check_many {d : Dd} (h : 8 < d.length ∨ 512 < idsN d) : checkD d = 6 := by
  unfold checkD
  rw [if_pos h]
theorem all_take {l : List (Int × Int)} {j : Nat} {x : Int × Int} (h : l[j]? = some x) (ht : (l.take j).all isS = true) : (l.take (j + 1)).all isS = isS x := by
  rw [List.take_add_one, h, List.all_append, ht]
  simp
end SD
end Go.Proofs.Ytjlbhffdlogflaa
