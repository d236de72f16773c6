/- Lists of numbers in memory, lists of shards in memory; only, isNode, Quorum. Conditions: none. -/
import Derived.Laws.AppendOwnNone
import Derived.Laws.AppendOwn
import Derived.Test.YtddbmibfebhmjaaMg12
set_option maxRecDepth 100000
set_option maxHeartbeats 16000000
namespace Go.Proofs.Ytddbmibfebhmjaa
namespace S3
open Go.RowKit Go.Sort
theorem lt_of_block {w : World} {b : Nat} {o : Obj} (h : w.heap[b]? = some o) : b < w.heap.size := (Array.getElem?_eq_some_iff.1 h).1
theorem cell_in {B : Nat} {W wr : World} (h : Below B W wr) {b o : Nat} {v : Value} (hb : b < B) (hc : W.cell? ⟨b, o, none⟩ = some v) : wr.cell? ⟨b, o, none⟩ = some v :=
 (h.cell (p := ⟨b, o, none⟩) hb).trans hc
theorem at_lt {α : Type} {l : List α} {k : Nat} (h : k < l.length) : ∃ x, l[k]? = some x := ⟨_, List.getElem?_eq_getElem h⟩
theorem ne_of_lt {α : Type} {l : List α} {k : Nat} (h : k < l.length) : l ≠ [] := by
 rintro rfl
 exact absurd h (Nat.not_lt_zero _)
def Row2 (w : World) (g o : Nat) (l : List Sp) : Prop := ∀ i s, l[i]? = some s → w.cell? ⟨g, o + i * 2, none⟩ = some (.string s.1) ∧ w.cell? ⟨g, o + i * 2 + 1, none⟩ = some (.string s.2)
def Sl (w : World) (v : Value) (l : List Sp) : Prop := ∃ a cap, v = .slice a l.length cap ∧ (a = none → cap = 0) ∧ (l ≠ [] → ∃ g o, a = some ⟨g, o, none⟩ ∧ g < w.heap.size ∧ Row2 w g o l)
theorem Row2.later {B : Nat} {W wr : World} {g o : Nat} {l : List Sp} (h : Row2 W g o l) (hb : g < B) (hw : Below B W wr) : Row2 wr g o l :=
 fun i s hi => ⟨cell_in hw hb (h i s hi).1, cell_in hw hb (h i s hi).2⟩
theorem Sl.later {W wr : World} {v : Value} {l : List Sp} (h : Sl W v l) (hw : Below W.heap.size W wr) : Sl wr v l := by
 obtain ⟨a, cap, hv, hn, hr⟩ := h
 refine ⟨a, cap, hv, hn, fun hne => ?_⟩
 obtain ⟨g, o, ha, hg, hl⟩ := hr hne
 exact ⟨g, o, ha, Nat.lt_of_lt_of_le hg hw.size, hl.later hg hw⟩
theorem Sl.form {w : World} {v : Value} {l : List Sp} (h : Sl w v l) : ∃ a cap, v = .slice a l.length cap := by
 obtain ⟨a, cap, hv, _⟩ := h
 exact ⟨a, cap, hv⟩
theorem Sl.at {w : World} {a : Option Addr} {n cap : Nat} {l : List Sp} (h : Sl w (.slice a n cap) l) {k : Nat} {s : Sp} (hs : l[k]? = some s) :
  ∃ g o, a = some ⟨g, o, none⟩ ∧ g < w.heap.size ∧ w.cell? ⟨g, o + k * 2, none⟩ = some (.string s.1) ∧ w.cell? ⟨g, o + k * 2 + 1, none⟩ = some (.string s.2) := by
 obtain ⟨a', cap', hv, hn, hr⟩ := h
 simp only [Value.slice.injEq] at hv
 obtain ⟨rfl, rfl, rfl⟩ := hv
 have hne : l ≠ [] := by rintro rfl; simp at hs
 obtain ⟨g, o, ha, hg, hl⟩ := hr hne
 exact ⟨g, o, ha, hg, hl k s hs⟩
def Box1 (w : World) (b : Nat) (t : TypeId) (v : Value) : Prop := w.heap[b]? = some (.cells #[v] t (0, 0))
theorem Box1.lt {w : World} {b : Nat} {t : TypeId} {v : Value} (h : Box1 w b t v) : b < w.heap.size := lt_of_block h
theorem Box1.c {w : World} {b : Nat} {t : TypeId} {v : Value} (h : Box1 w b t v) : w.cell? ⟨b, 0, none⟩ = some v := by unfold Box1 at h; simp [World.cell?, h]
theorem Box1.f {w : World} {b : Nat} {t : TypeId} {v : Value} (h : Box1 w b t v) : w.frozen? ⟨b, 0, none⟩ = false := by unfold Box1 at h; simp [World.frozen?, h]
theorem Box1.later {w wr : World} {b B : Nat} {t : TypeId} {v : Value} (h : Box1 w b t v) (hb : Below B w wr) (hB : b < B) : Box1 wr b t v := (hb.block b hB).trans h
theorem box1_new (w : World) (t : TypeId) (v : Value) : Box1 (w.alloc (Obj.cells #[v] t)) w.heap.size t v := by
 show (w.heap.push _)[w.heap.size]? = _
 simp
def cellsL (l : List Sp) : List Value := l.flatMap fun s => [.string s.1, .string s.2]
theorem cellsL_length (l : List Sp) : (cellsL l).length = l.length * 2 := by
 induction l with
 | nil => rfl
 | cons a r ih => simp [cellsL] at ih ⊢; omega
theorem cellsL_at (l : List Sp) : ∀ (i : Nat) (s : Sp), l[i]? = some s → (cellsL l)[i * 2]? = some (.string s.1) ∧ (cellsL l)[i * 2 + 1]? = some (.string s.2) := by
 induction l with
 | nil => intro i s h; simp at h
 | cons a r ih =>
  intro i s h
  cases i with
  | zero =>
   simp only [List.getElem?_cons_zero, Option.some.injEq] at h
   subst h
   exact ⟨rfl, rfl⟩
  | succ i =>
   obtain ⟨h1, h2⟩ := ih i s (by simpa using h)
   have e : cellsL (a :: r) = Value.string a.1 :: Value.string a.2 :: cellsL r := rfl
   rw [e, show (i + 1) * 2 = i * 2 + 1 + 1 by omega]
   simpa using ⟨h1, h2⟩
theorem Row2.cells {w : World} {b o : Nat} {l : List Sp} (h : Row2 w b o l) : ∀ (j : Nat) (u : Value), (cellsL l)[j]? = some u → w.cell? ((⟨b, o, none⟩ : Addr).add j) = some u := by
 intro j u hj
 have hlt : j < l.length * 2 := by
  have := (List.getElem?_eq_some_iff.1 hj).1
  rwa [cellsL_length] at this
 obtain ⟨s, hs⟩ := at_lt (l := l) (k := j / 2) (by omega)
 obtain ⟨c1, c2⟩ := cellsL_at l (j / 2) s hs
 obtain ⟨h1, h2⟩ := h (j / 2) s hs
 rw [Go.WideShapes.add_plain]
 rcases Nat.mod_two_eq_zero_or_one j with hm | hm
 ·have e : j / 2 * 2 = j := by omega
  rw [e] at c1 h1
  rw [h1, ← c1, hj]
 ·have e : j / 2 * 2 + 1 = j := by omega
  rw [e] at c2
  rw [show o + j / 2 * 2 + 1 = o + j by omega] at h2
  rw [h2, ← c2, hj]
end S3
end Go.Proofs.Ytddbmibfebhmjaa

namespace Go.Proofs.Ytddbmibfebhmjaa
open S3
namespace S4
open Go.RowKit Go.Sort
def RowI (w : World) (g o : Nat) (l : List Int) : Prop := ∀ (i : Nat) x, l[i]? = some x → w.cell? ⟨g, o + i, none⟩ = some (.int .i64 x)
def Il (w : World) (a : Option Addr) (cap : Nat) (l : List Int) : Prop := (a = none → cap = 0) ∧ (l ≠ [] → ∃ g o, a = some ⟨g, o, none⟩ ∧ g < w.heap.size ∧ RowI w g o l)
theorem RowI.later {B : Nat} {W wr : World} {g o : Nat} {l : List Int} (h : RowI W g o l) (hb : g < B) (hw : Below B W wr) : RowI wr g o l := fun i s hi => cell_in hw hb (h i s hi)
theorem Il.later {W wr : World} {a : Option Addr} {c : Nat} {l : List Int} (h : Il W a c l) (hw : Below W.heap.size W wr) : Il wr a c l := by
 refine ⟨h.1, fun hne => ?_⟩
 obtain ⟨g, o, ha, hg, hl⟩ := h.2 hne
 exact ⟨g, o, ha, Nat.lt_of_lt_of_le hg hw.size, hl.later hg hw⟩
theorem Il.at {w : World} {a : Option Addr} {cap : Nat} {l : List Int} (h : Il w a cap l) {k : Nat} {s : Int} (hs : l[k]? = some s) : ∃ g o, a = some ⟨g, o, none⟩ ∧ g < w.heap.size ∧ w.cell? ⟨g, o + k, none⟩ = some (.int .i64 s) := by
 have hne : l ≠ [] := by rintro rfl; simp at hs
 obtain ⟨g, o, ha, hg, hl⟩ := h.2 hne
 exact ⟨g, o, ha, hg, hl k s hs⟩
theorem Il.nil (w : World) : Il w none 0 [] := ⟨fun _ => rfl, fun h => absurd rfl h⟩
theorem info_int : (Try.prog.info? 3).map (fun i => (i.zero, i.size, i.bytes)) = some (some (.int .i64 0), 1, 8) := by kernel_rfl
def cellsI (l : List Int) : List Value := l.map (.int .i64)
theorem cellsI_length (l : List Int) : (cellsI l).length = l.length := by simp [cellsI]
theorem cellsI_at {l : List Int} {i : Nat} {s : Int} (h : l[i]? = some s) : (cellsI l)[i]? = some (.int .i64 s) := by simp [cellsI, h]
theorem cellsI_one (l : List Int) : ∀ u ∈ cellsI l, u.oneCell' = true := by
 intro u hu
 obtain ⟨s, _, rfl⟩ := List.mem_map.1 hu
 rfl
theorem RowI.cells {w : World} {b o : Nat} {l : List Int} (h : RowI w b o l) : ∀ (j : Nat) (u : Value), (cellsI l)[j]? = some u → w.cell? ((⟨b, o, none⟩ : Addr).add j) = some u := by
 intro j u hj
 have hlt : j < l.length := by
  have := (List.getElem?_eq_some_iff.1 hj).1
  rwa [cellsI_length] at this
 obtain ⟨s, hs⟩ := at_lt hlt
 rw [Go.WideShapes.add_plain, h j s hs, ← cellsI_at hs, hj]
def OwnI (w : World) (base : Nat) (v : Value) (l : List Int) : Prop := w.ownsRow base 3 1 v l.length (cellsI l)
theorem OwnI.il {w : World} {base : Nat} {v : Value} {l : List Int} (h : OwnI w base v l) : ∃ a c, v = .slice a l.length c ∧ Il w a c l := by
 obtain ⟨h1, h2 | ⟨g, cap, cur, hv, hg, hh, hn, hm, hs, hx⟩⟩ := h
 ·obtain ⟨rfl, hl⟩ := h2
  obtain rfl := List.eq_nil_of_length_eq_zero hl
  exact ⟨none, 0, rfl, Il.nil w⟩
 ·refine ⟨_, cap, hv, fun h => (by cases h), fun _ => ⟨g, 0, rfl, lt_of_block hh, fun i s hi => ?_⟩⟩
  have hil := (List.getElem?_eq_some_iff.1 hi).1
  have c1 := cellsI_at hi
  rw [← hx] at c1
  rw [List.getElem?_take_of_lt (by omega)] at c1
  rw [Nat.zero_add]
  simp only [World.cell?, hh]; simpa using c1
theorem OwnI.later {W wr : World} {base : Nat} {v : Value} {l : List Int} (h : OwnI W base v l) (hb : Below W.heap.size W wr) : OwnI wr base v l := by
 obtain ⟨h1, h2 | ⟨g, cap, cur, hv, hg, hh, hn, hm, hs, hx⟩⟩ := h
 ·exact ⟨h1, .inl h2⟩
 ·exact ⟨h1, .inr ⟨g, cap, cur, hv, hg, (hb.block g (lt_of_block hh)).trans hh, hn, hm, hs, hx⟩⟩
theorem OwnI.nil (w : World) (base : Nat) : OwnI w base (.slice none 0 0) [] := World.ownsRow_nil _ _ _ _
theorem OwnI.block {w : World} {base : Nat} {v : Value} {l : List Int} (h : OwnI w base v l) : ∀ k, v.ownBlock = some k → base ≤ k := by
 intro k hk
 obtain ⟨h1, ⟨rfl, _⟩ | ⟨g, cap, cur, rfl, hg, _⟩⟩ := h
 ·simp [Value.ownBlock] at hk
 ·simp [Value.ownBlock] at hk
  omega
theorem OwnI.mono {w : World} {base B : Nat} {v : Value} {d : List Int} (h : OwnI w B v d) (hb : base ≤ B) : OwnI w base v d := by
 obtain ⟨h1, h2 | ⟨g, cap, cur, hv, hg, rest⟩⟩ := h
 ·exact ⟨h1, .inl h2⟩
 ·exact ⟨h1, .inr ⟨g, cap, cur, hv, Nat.le_trans hb hg, rest⟩⟩
theorem OwnI.form {w : World} {base : Nat} {v : Value} {l : List Int} (h : OwnI w base v l) : ∃ a cap, v = .slice a l.length cap := by
 obtain ⟨a, c, hv, _⟩ := h.il
 exact ⟨a, c, hv⟩
theorem OwnI.at {w : World} {base : Nat} {a : Option Addr} {n c : Nat} {l : List Int} (h : OwnI w base (.slice a n c) l) : Il w a c l := by
 obtain ⟨a', c', hv, hi⟩ := h.il
 simp only [Value.slice.injEq] at hv
 obtain ⟨rfl, _, rfl⟩ := hv
 exact hi
theorem grown_belowI {B base : Nat} {x w w' : World} {v : Value} {d : List Int} (h : Below B x w) (hown : OwnI w base v d) (hB : B ≤ base) (hw : B ≤ w.heap.size) (hg : w.grownBy w' v.ownBlock) : Below B x w' :=
 h.grown hg hw (fun k hk => Nat.le_trans hB (hown.block k hk))
theorem one_newI (X : World) (s : Int) (n : Nat) (h : X.heap.size = n) : Il (X.alloc (.cells #[.int .i64 s] 3)) (some ⟨n, 0, none⟩) 1 [s] := by
 subst h
 refine ⟨fun h => (by cases h), fun _ => ⟨X.heap.size, 0, rfl, by simp, fun i x hi => ?_⟩⟩
 cases i with
 | zero =>
  simp only [List.getElem?_cons_zero, Option.some.injEq] at hi
  subst hi
  exact (box1_new X _ _).c
 | succ i => simp at hi
def RowS (w : World) (g o : Nat) (l : List Sh) : Prop := ∀ (i : Nat) s, l[i]? = some s → w.cell? ⟨g, o + i * 3, none⟩ = some (.string s.sp.1) ∧ w.cell? ⟨g, o + i * 3 + 1, none⟩ = some (.string s.sp.2) ∧ w.cell? ⟨g, o + i * 3 + 2, none⟩ = some (.slice s.na s.nodes.length s.nc)
def NodesAt (w : World) (l : List Sh) : Prop := ∀ s ∈ l, Il w s.na s.nc s.nodes
def Hl (w : World) (a : Option Addr) (l : List Sh) : Prop := NodesAt w l ∧ (l ≠ [] → ∃ g o, a = some ⟨g, o, none⟩ ∧ g < w.heap.size ∧ RowS w g o l)
theorem Hl.later {W wr : World} {a : Option Addr} {l : List Sh} (h : Hl W a l) (hw : Below W.heap.size W wr) : Hl wr a l := by
 refine ⟨fun s hs => (h.1 s hs).later hw, fun hne => ?_⟩
 obtain ⟨g, o, ha, hg, hl⟩ := h.2 hne
 exact ⟨g, o, ha, Nat.lt_of_lt_of_le hg hw.size, fun i s hi => ⟨cell_in hw hg (hl i s hi).1, cell_in hw hg (hl i s hi).2.1, cell_in hw hg (hl i s hi).2.2⟩⟩
theorem Hl.at {w : World} {a : Option Addr} {l : List Sh} (h : Hl w a l) {k : Nat} {s : Sh} (hs : l[k]? = some s) : ∃ g o, a = some ⟨g, o, none⟩ ∧ g < w.heap.size ∧ w.cell? ⟨g, o + k * 3, none⟩ = some (.string s.sp.1) ∧ w.cell? ⟨g, o + k * 3 + 1, none⟩ = some (.string s.sp.2) ∧ w.cell? ⟨g, o + k * 3 + 2, none⟩ = some (.slice s.na s.nodes.length s.nc) := by
 have hne : l ≠ [] := by rintro rfl; simp at hs
 obtain ⟨g, o, ha, hg, hl⟩ := h.2 hne
 exact ⟨g, o, ha, hg, hl k s hs⟩
end S4
end Go.Proofs.Ytddbmibfebhmjaa
