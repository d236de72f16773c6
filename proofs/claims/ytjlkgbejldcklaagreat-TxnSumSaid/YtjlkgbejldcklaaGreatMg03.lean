/- Regions that leave their order open, whose operations read older memory and whose calls give one value each and leave all older memory as it was: one walk, in the text's order, serves every order; own, and a list appended to a list. Conditions: as each theorem states. -/
import Derived.Deep.AppendLies
import Derived.BigQuiet
import Derived.Test.YtjlkgbejldcklaaGreatMg02
import Derived.Test.YtjlkgbejldcklaaGreatMg01
namespace Go.Proofs.YtjlkgbejldcklaaGreat
namespace S3
open Go.RowKit
def Row1 (w : World) (g o : Nat) (l : List ByteArray) : Prop := ∀ (i : Nat) s, l[i]? = some s → w.cell? ⟨g, o + i, none⟩ = some (.string s)
def Tl (w : World) (v : Value) (l : List ByteArray) : Prop := ∃ a cap, v = .slice a l.length cap ∧ (a = none → cap = 0) ∧ (l ≠ [] → ∃ g o, a = some ⟨g, o, none⟩ ∧ g < w.heap.size ∧ Row1 w g o l)
theorem Row1.later {B : Nat} {W wr : World} {g o : Nat} {l : List ByteArray} (h : Row1 W g o l) (hb : g < B) (hw : Below B W wr) : Row1 wr g o l :=
  fun i s hi => cell_in hw hb (h i s hi)
theorem Tl.later {W wr : World} {v : Value} {l : List ByteArray} (h : Tl W v l) (hw : Below W.heap.size W wr) : Tl wr v l := by
  obtain ⟨a, cap, hv, hn, hr⟩ := h
  refine ⟨a, cap, hv, hn, fun hne => ?_⟩
  obtain ⟨g, o, ha, hg, hl⟩ := hr hne
  exact ⟨g, o, ha, Nat.lt_of_lt_of_le hg hw.size, hl.later hg hw⟩
theorem Tl.form {w : World} {v : Value} {l : List ByteArray} (h : Tl w v l) : ∃ a cap, v = .slice a l.length cap := by
  obtain ⟨a, cap, hv, _⟩ := h
  exact ⟨a, cap, hv⟩
theorem Tl.at {w : World} {a : Option Addr} {n cap : Nat} {l : List ByteArray} (h : Tl w (.slice a n cap) l) {k : Nat} {s : ByteArray} (hs : l[k]? = some s) :
    ∃ g o, a = some ⟨g, o, none⟩ ∧ g < w.heap.size ∧ w.cell? ⟨g, o + k, none⟩ = some (.string s) := by
  obtain ⟨a', cap', hv, hn, hr⟩ := h
  simp only [Value.slice.injEq] at hv
  obtain ⟨rfl, rfl, rfl⟩ := hv
  have hne : l ≠ [] := by rintro rfl; simp at hs
  obtain ⟨g, o, ha, hg, hl⟩ := hr hne
  exact ⟨g, o, ha, hg, hl k s hs⟩
def cellsT (l : List ByteArray) : List Value := l.map .string
theorem cellsT_length (l : List ByteArray) : (cellsT l).length = l.length := by simp [cellsT]
theorem cellsT_append (l r : List ByteArray) : cellsT (l ++ r) = cellsT l ++ cellsT r := by simp [cellsT]
theorem cellsT_at {l : List ByteArray} {i : Nat} {s : ByteArray} (h : l[i]? = some s) : (cellsT l)[i]? = some (.string s) := by simp [cellsT, h]
theorem cellsT_one (l : List ByteArray) : ∀ u ∈ cellsT l, u.oneCell' = true := by
  intro u hu
  obtain ⟨s, _, rfl⟩ := List.mem_map.1 hu
  rfl
theorem Row1.cells {w : World} {b o : Nat} {l : List ByteArray} (h : Row1 w b o l) : ∀ (j : Nat) (u : Value), (cellsT l)[j]? = some u → w.cell? ((⟨b, o, none⟩ : Addr).add j) = some u := by
  intro j u hj
  have hlt : j < l.length := by
    have := (List.getElem?_eq_some_iff.1 hj).1
    rwa [cellsT_length] at this
  obtain ⟨s, hs⟩ := at_lt hlt
  rw [Go.WideShapes.add_plain, h j s hs, ← cellsT_at hs, hj]
def OwnT (w : World) (base : Nat) (v : Value) (l : List ByteArray) : Prop := w.ownsRow base 9 1 v l.length (cellsT l)
theorem OwnT.row {w : World} {base : Nat} {v : Value} {l : List ByteArray} (h : OwnT w base v l) : (v = .slice none 0 0 ∧ l = []) ∨
    ∃ g cap, v = .slice (some ⟨g, 0, none⟩) l.length cap ∧ base ≤ g ∧ g < w.heap.size ∧ l.length ≤ cap ∧ cap ≤ 9223372036854775807 ∧ Row1 w g 0 l := by
  obtain ⟨h1, h2 | ⟨g, cap, cur, hv, hg, hh, hn, hm, hs, hx⟩⟩ := h
  · obtain ⟨rfl, hl⟩ := h2
    exact .inl ⟨rfl, List.eq_nil_of_length_eq_zero hl⟩
  · refine .inr ⟨g, cap, hv, hg, lt_of_block hh, hn, by unfold maxLen at hm; omega, fun i s hi => ?_⟩
    have hil := (List.getElem?_eq_some_iff.1 hi).1
    have c1 := cellsT_at hi
    rw [← hx] at c1
    rw [List.getElem?_take_of_lt (by omega)] at c1
    rw [Nat.zero_add]
    simp only [World.cell?, hh]; simpa using c1
theorem OwnT.tl {w : World} {base : Nat} {v : Value} {l : List ByteArray} (h : OwnT w base v l) : Tl w v l := by
  rcases h.row with ⟨rfl, rfl⟩ | ⟨g, cap, rfl, _, hg, _, _, hr⟩
  · exact ⟨none, 0, rfl, fun _ => rfl, fun h => absurd rfl h⟩
  · exact ⟨_, cap, rfl, fun h => (by cases h), fun _ => ⟨g, 0, rfl, hg, hr⟩⟩
theorem OwnT.later {W wr : World} {base : Nat} {v : Value} {l : List ByteArray} (h : OwnT W base v l) (hb : Below W.heap.size W wr) : OwnT wr base v l := by
  obtain ⟨h1, h2 | ⟨g, cap, cur, hv, hg, hh, hn, hm, hs, hx⟩⟩ := h
  · exact ⟨h1, .inl h2⟩
  · exact ⟨h1, .inr ⟨g, cap, cur, hv, hg, (hb.block g (lt_of_block hh)).trans hh, hn, hm, hs, hx⟩⟩
theorem OwnT.nil (w : World) (base : Nat) : OwnT w base (.slice none 0 0) [] := World.ownsRow_nil _ _ _ _
theorem OwnT.block {w : World} {base : Nat} {v : Value} {l : List ByteArray} (h : OwnT w base v l) : ∀ k, v.ownBlock = some k → base ≤ k := by
  intro k hk
  obtain ⟨h1, ⟨rfl, _⟩ | ⟨g, cap, cur, rfl, hg, _⟩⟩ := h
  · simp [Value.ownBlock] at hk
  · simp [Value.ownBlock] at hk
    omega
theorem OwnT.mono {w : World} {base B : Nat} {v : Value} {d : List ByteArray} (h : OwnT w B v d) (hb : base ≤ B) : OwnT w base v d := by
  obtain ⟨h1, h2 | ⟨g, cap, cur, hv, hg, rest⟩⟩ := h
  · exact ⟨h1, .inl h2⟩
  · exact ⟨h1, .inr ⟨g, cap, cur, hv, Nat.le_trans hb hg, rest⟩⟩
theorem OwnT.form {w : World} {base : Nat} {v : Value} {l : List ByteArray} (h : OwnT w base v l) : ∃ a cap, v = .slice a l.length cap := h.tl.form
theorem info_str : (Tryz.prog.info? 9).map (fun i => (i.zero, i.size, i.bytes)) = some (some (.string ⟨#[]⟩), 1, 16) := by kernel_rfl
theorem wp_append_tx {w : World} {o : Oper} {a : Act} {K : Act → World → Prop} {Q : Exit → Act → World → Prop} (s x : Operand)
    (ho : o.op = .call { callee := .builtin .append, args := #[s, x], argTypes := #[87, 87] })
    (base : Nat) (v : Value) (d : List ByteArray) (hs : a.eval s = v) (hown : OwnT w base v d) (xv : Value) (l : List ByteArray) (hx : a.eval x = xv) (hsl : Tl w xv l)
    (hlen : d.length + l.length ≤ 4000000) (hbase : base ≤ w.heap.size)
    (h : ∀ v' w', OwnT w' base v' (d ++ l) → w.grownBy w' v.ownBlock → K (a.put o.dst v') w') : o.wp Tryz.prog a w K Q := by
  obtain ⟨i0, hi, hz0, hz1, hz2⟩ := info_parts info_str
  obtain ⟨ad, cap, rfl, hn, hr⟩ := hsl
  cases ad with
  | none =>
    obtain rfl : cap = 0 := hn rfl
    obtain rfl : l = [] := by
      apply Classical.byContradiction
      intro hne
      obtain ⟨_, _, h, _⟩ := hr hne
      cases h
    have hx' : a.eval x = .slice none 0 0 := hx
    have hrun := run_append_owned_none (P := Tryz.prog) (w := w) base 87 o.type 9 i0 1 Tryz.underlying87 hi v d.length (cellsT d) hown
    unfold Oper.wp
    simp [execOp, ho, resolve, invoke, builtin, hs, hx', hrun, Result.andThen]
    exact (h v w (by rw [List.append_nil]; exact hown) ⟨rfl, rfl, rfl, Nat.le_refl _, fun _ _ _ => rfl⟩)
  | some ad =>
    have hc : ∀ (j : Nat) (u : Value), (cellsT l)[j]? = some u → w.cell? (ad.add j) = some u := by
      intro j u hj
      have hne : l ≠ [] := by rintro rfl; simp [cellsT] at hj
      obtain ⟨g, o', ha, _, hrow⟩ := hr hne
      simp only [Option.some.injEq] at ha
      subst ha
      exact hrow.cells j u hj
    refine wp_append_own w s x 87 ho base 9 i0 (.string ⟨#[]⟩) 1 16 Tryz.underlying87 hi hz0 hz1 hz2 rfl (by decide) v d.length (cellsT d) hs hown ad l.length cap (cellsT l) hx (by rw [cellsT_length]; omega) hc (cellsT_one l) (by unfold maxLen; omega) (by omega) hbase ?_
    intro v' w' h2 h3 _
    refine h v' w' ?_ h3
    show w'.ownsRow base _ 1 v' _ _
    rw [List.length_append, cellsT_append]
    exact h2
theorem one_newT (X : World) (s : ByteArray) (n : Nat) (h : X.heap.size = n) : Tl (X.alloc (.cells #[.string s] 9)) (.slice (some ⟨n, 0, none⟩) 1 1) [s] := by
  subst h
  refine ⟨_, 1, rfl, fun h => (by cases h), fun _ => ⟨X.heap.size, 0, rfl, by simp, fun i x hi => ?_⟩⟩
  cases i with
  | zero =>
    simp only [List.getElem?_cons_zero, Option.some.injEq] at hi
    subst hi
    exact (box1_new X _ _).c
  | succ i => simp at hi
end S3
end Go.Proofs.YtjlkgbejldcklaaGreat

namespace Go.Proofs.YtjlkgbejldcklaaGreat
namespace S3
def insT (x : ByteArray) : List ByteArray → List ByteArray
  | [] => [x]
  | y :: r => if ltT y x = true then y :: insT x r else if y.toList == x.toList then y :: r else x :: y :: r
def Rises (l : List ByteArray) : Prop := l.Pairwise fun a b => ltT a b = true
theorem insT_mem (x : ByteArray) : ∀ (l : List ByteArray) (y : ByteArray), y ∈ insT x l ↔ y = x ∨ y ∈ l
  | [], y => by simp [insT]
  | z :: r, y => by
    unfold insT
    split
    · rw [List.mem_cons, insT_mem x r y, List.mem_cons]
      constructor
      · rintro (h | h | h)
        · exact .inr (.inl h)
        · exact .inl h
        · exact .inr (.inr h)
      · rintro (h | h | h)
        · exact .inr (.inl h)
        · exact .inl h
        · exact .inr (.inr h)
    · split
      · rename_i h2
        have e : z = x := text_ext (by simpa using h2)
        subst e
        simp
      · simp
theorem insT_rises (x : ByteArray) : ∀ (l : List ByteArray), Rises l → Rises (insT x l)
  | [], _ => List.pairwise_singleton _ _
  | z :: r, h => by
    obtain ⟨h1, h2⟩ := List.pairwise_cons.1 h
    unfold insT
    split
    · rename_i hz
      refine List.pairwise_cons.2 ⟨fun y hy => ?_, insT_rises x r h2⟩
      rcases (insT_mem x r y).1 hy with rfl | hy
      · exact hz
      · exact h1 y hy
    · rename_i hz
      split
      · exact h
      · rename_i hn
        have hzx : ltT x z = true := by
          cases hc : ltT x z
          · exact absurd (by rw [lt_total (by simpa using hz) hc]; simp) hn
          · rfl
        refine List.pairwise_cons.2 ⟨fun y hy => ?_, h⟩
        rcases List.mem_cons.1 hy with rfl | hy
        · exact hzx
        · exact lt_trans hzx (h1 y hy)
def markS (m : List ByteArray) (s : Sp) : List ByteArray := if noT s.2 = true then insT s.1 m else insT s.2 (insT s.1 m)
def marksL (l : List Sp) : List ByteArray := l.foldl markS []
theorem markS_mem (m : List ByteArray) (s : Sp) (y : ByteArray) : y ∈ markS m s ↔ y ∈ m ∨ y = s.1 ∨ (noT s.2 = false ∧ y = s.2) := by
  unfold markS
  split
  · rename_i h
    rw [insT_mem]
    simp [h, or_comm]
  · rename_i h
    rw [insT_mem, insT_mem]
    simp only [Bool.not_eq_true] at h
    simp only [h, true_and]
    constructor
    · rintro (h | h | h)
      · exact .inr (.inr h)
      · exact .inr (.inl h)
      · exact .inl h
    · rintro (h | h | h)
      · exact .inr (.inr h)
      · exact .inr (.inl h)
      · exact .inl h
theorem markS_rises {m : List ByteArray} (h : Rises m) (s : Sp) : Rises (markS m s) := by
  unfold markS
  split
  · exact insT_rises _ _ h
  · exact insT_rises _ _ (insT_rises _ _ h)
theorem foldl_marks (l : List Sp) : ∀ (m : List ByteArray), Rises m → Rises (l.foldl markS m) ∧ (∀ y, y ∈ l.foldl markS m ↔ y ∈ m ∨ ∃ s ∈ l, y = s.1 ∨ (noT s.2 = false ∧ y = s.2)) := by
  induction l with
  | nil => intro m h; exact ⟨h, fun y => by simp⟩
  | cons s l ih =>
    intro m h
    obtain ⟨h1, h2⟩ := ih (markS m s) (markS_rises h s)
    refine ⟨h1, fun y => ?_⟩
    rw [List.foldl_cons, h2, markS_mem]
    constructor
    · rintro ((h | h) | ⟨t, ht, h⟩)
      · exact .inl h
      · exact .inr ⟨s, by simp, h⟩
      · exact .inr ⟨t, by simp [ht], h⟩
    · rintro (h | ⟨t, ht, h⟩)
      · exact .inl (.inl h)
      · rcases List.mem_cons.1 ht with rfl | ht
        · exact .inl (.inr h)
        · exact .inr ⟨t, ht, h⟩
theorem marksL_rises (l : List Sp) : Rises (marksL l) := (foldl_marks l [] List.Pairwise.nil).1
theorem marksL_mem (l : List Sp) (y : ByteArray) : y ∈ marksL l ↔ ∃ s ∈ l, y = s.1 ∨ (noT s.2 = false ∧ y = s.2) := by
  unfold marksL
  rw [(foldl_marks l [] List.Pairwise.nil).2]
  simp
def buildL (P : ByteArray → Bool) : Option ByteArray → List ByteArray → List Sp
  | none, [] => []
  | some f, [] => [(f, ⟨#[]⟩)]
  | none, x :: r => if P x = true then buildL P (some x) r else buildL P none r
  | some f, x :: r => if P x = true then buildL P (some f) r else (f, x) :: buildL P none r
def Ahead (o : Option ByteArray) (m : List ByteArray) : Prop := ∀ f, o = some f → ∀ x ∈ m, ltT f x = true
theorem Ahead.none (m : List ByteArray) : Ahead .none m := fun f h => by cases h
theorem Ahead.tail {o : Option ByteArray} {x : ByteArray} {m : List ByteArray} (h : Ahead o (x :: m)) : Ahead o m := fun f hf y hy => h f hf y (by simp [hy])
theorem Ahead.head {x : ByteArray} {m : List ByteArray} (h : Rises (x :: m)) : Ahead (some x) m := fun f hf y hy => by
  cases hf
  exact (List.pairwise_cons.1 h).1 y hy
theorem Rises.tail {x : ByteArray} {m : List ByteArray} (h : Rises (x :: m)) : Rises m := (List.pairwise_cons.1 h).2
theorem buildL_below (P : ByteArray → Bool) : ∀ (m : List ByteArray) (o : Option ByteArray) (k : ByteArray), Rises m → Ahead o m → (∀ x ∈ m, ltT k x = true) → memL (buildL P o m) k = (match o with | none => false | some f => !ltT k f)
  | [], none, k, _, _, _ => rfl
  | [], some f, k, _, _, _ => by
    have : noT (⟨#[]⟩ : ByteArray) = true := noT_iff.2 rfl
    simp [buildL, memL_cons, memL_nil, inS, this]
  | x :: r, none, k, hr, _, hk => by
    unfold buildL
    split
    · rw [buildL_below P r (some x) k hr.tail (Ahead.head hr) (fun y hy => hk y (by simp [hy]))]
      simp [hk x (by simp)]
    · rw [buildL_below P r none k hr.tail (Ahead.none _) (fun y hy => hk y (by simp [hy]))]
  | x :: r, some f, k, hr, ha, hk => by
    have hkx := hk x (by simp)
    unfold buildL
    split
    · rw [buildL_below P r (some f) k hr.tail ha.tail (fun y hy => hk y (by simp [hy]))]
    · rw [memL_cons, buildL_below P r none k hr.tail (Ahead.none _) (fun y hy => hk y (by simp [hy]))]
      simp [inS, hkx]
theorem buildL_at (P : ByteArray → Bool) : ∀ (m : List ByteArray) (x : ByteArray) (o : Option ByteArray) (k : ByteArray), Rises (x :: m) → Ahead o (x :: m) → ltT k x = false →
    ∃ y ∈ x :: m, ltT k y = false ∧ (∀ z ∈ x :: m, ltT k z = false → ltT y z = false) ∧ memL (buildL P o (x :: m)) k = P y := by
  have last : ∀ (m : List ByteArray) (x : ByteArray) (o : Option ByteArray) (k : ByteArray), Rises (x :: m) → Ahead o (x :: m) → ltT k x = false → (∀ z ∈ m, ltT k z = true) →
      ∃ y ∈ x :: m, ltT k y = false ∧ (∀ z ∈ x :: m, ltT k z = false → ltT y z = false) ∧ memL (buildL P o (x :: m)) k = P y := by
    intro m x o k hr ha hk hz
    refine ⟨x, by simp, hk, fun z hzm hkz => ?_, ?_⟩
    · rcases List.mem_cons.1 hzm with rfl | hzm
      · exact lt_irrefl _
      · rw [hz z hzm] at hkz
        cases hkz
    · cases o with
      | none =>
        unfold buildL
        cases hp : P x
        · simp only [Bool.false_eq_true, if_false]
          rw [buildL_below P m none k hr.tail (Ahead.none _) hz]
        · simp only [if_true]
          rw [buildL_below P m (some x) k hr.tail (Ahead.head hr) hz]
          simp [hk]
      | some f =>
        have hfx := ha f rfl x (by simp)
        unfold buildL
        cases hp : P x
        · simp only [Bool.false_eq_true, if_false]
          rw [memL_cons, buildL_below P m none k hr.tail (Ahead.none _) hz, inS_to (noT_of_lt hfx) hk]
          rfl
        · simp only [if_true]
          rw [buildL_below P m (some f) k hr.tail ha.tail hz]
          have : ltT k f = false := by
            cases h : ltT k f
            · rfl
            · rw [lt_trans h hfx] at hk
              cases hk
          simp [this]
  intro m
  induction m with
  | nil => intro x o k hr ha hk; exact last [] x o k hr ha hk (fun z hz => by cases hz)
  | cons x2 m ih =>
    intro x o k hr ha hk
    cases hk2 : ltT k x2
    · have hx12 : ltT x x2 = true := (List.pairwise_cons.1 hr).1 x2 (by simp)
      have go : ∀ (o' : Option ByteArray), Ahead o' (x2 :: m) → (memL (buildL P o (x :: x2 :: m)) k = memL (buildL P o' (x2 :: m)) k) → ∃ y ∈ x :: x2 :: m, ltT k y = false ∧ (∀ z ∈ x :: x2 :: m, ltT k z = false → ltT y z = false) ∧ memL (buildL P o (x :: x2 :: m)) k = P y := by
        intro o' ha' he
        obtain ⟨y, hy, h1, h2, h3⟩ := ih x2 o' k hr.tail ha' hk2
        refine ⟨y, by simp at hy ⊢; exact .inr hy, h1, fun z hz hkz => ?_, he.trans h3⟩
        rcases List.mem_cons.1 hz with rfl | hz
        · have := h2 x2 (by simp) hk2
          exact lt_asymm (lt_ge hx12 this)
        · exact h2 z hz hkz
      cases o with
      | none =>
        cases hp : P x
        · exact go none (Ahead.none _) (by rw [buildL.eq_3]; rw [if_neg (by rw [hp]; simp)])
        · exact go (some x) (Ahead.head hr) (by rw [buildL.eq_3]; rw [if_pos hp])
      | some f =>
        have hfx := ha f rfl x (by simp)
        cases hp : P x
        · exact go none (Ahead.none _) (by
            rw [buildL.eq_4, if_neg (by rw [hp]; simp), memL_cons, inS_to (noT_of_lt hfx) hk]
            rfl)
        · exact go (some f) ha.tail (by rw [buildL.eq_4]; rw [if_pos hp])
    · refine last (x2 :: m) x o k hr ha hk fun z hz => ?_
      rcases List.mem_cons.1 hz with rfl | hz
      · exact hk2
      · exact lt_trans hk2 ((List.pairwise_cons.1 hr.tail).1 z hz)
theorem buildL_set (P : ByteArray → Bool) : ∀ (m : List ByteArray) (o : Option ByteArray), Rises m → Ahead o m → IsSet (buildL P o m) ∧ ∀ s ∈ buildL P o m, s.1 ∈ m ∨ o = some s.1
  | [], none, _, _ => ⟨isSet_nil, fun s hs => by cases hs⟩
  | [], some f, _, _ => by
    refine ⟨isSet_cons.2 ⟨by simp [fullS, noT_iff.2], fun t ht => (by cases ht), isSet_nil⟩, fun s hs => ?_⟩
    simp only [buildL, List.mem_singleton] at hs
    subst hs
    exact .inr rfl
  | x :: r, none, hr, _ => by
    unfold buildL
    split
    · obtain ⟨h1, h2⟩ := buildL_set P r (some x) hr.tail (Ahead.head hr)
      refine ⟨h1, fun s hs => ?_⟩
      rcases h2 s hs with h | h
      · exact .inl (by simp [h])
      · simp only [Option.some.injEq] at h
        exact .inl (by simp [h])
    · obtain ⟨h1, h2⟩ := buildL_set P r none hr.tail (Ahead.none _)
      refine ⟨h1, fun s hs => ?_⟩
      rcases h2 s hs with h | h
      · exact .inl (by simp [h])
      · cases h
  | x :: r, some f, hr, ha => by
    have hfx := ha f rfl x (by simp)
    unfold buildL
    split
    · obtain ⟨h1, h2⟩ := buildL_set P r (some f) hr.tail ha.tail
      refine ⟨h1, fun s hs => ?_⟩
      rcases h2 s hs with h | h
      · exact .inl (by simp [h])
      · exact .inr h
    · obtain ⟨h1, h2⟩ := buildL_set P r none hr.tail (Ahead.none _)
      refine ⟨isSet_cons.2 ⟨by simp [fullS, hfx], fun t ht => ⟨noT_of_lt hfx, ?_⟩, h1⟩, fun s hs => ?_⟩
      · rcases h2 t ht with h | h
        · exact (List.pairwise_cons.1 hr).1 _ h
        · cases h
      · rcases List.mem_cons.1 hs with rfl | hs
        · exact .inr rfl
        · rcases h2 s hs with h | h
          · exact .inl (by simp [h])
          · cases h
def wantB (n : Int) (x y : Bool) : Bool := if n = 2 then x && !y else if n = 1 then x && y else x || y
theorem wantB_ff (n : Int) : wantB n false false = false := by unfold wantB; split <;> (try split) <;> rfl
def setL (n : Int) (a b : List Sp) : List Sp := buildL (fun k => wantB n (memL a k) (memL b k)) none (marksL (a ++ b))
theorem setL_set (n : Int) (a b : List Sp) : IsSet (setL n a b) := (buildL_set _ _ none (marksL_rises _) (Ahead.none _)).1
theorem inS_same {s : Sp} {y k : ByteArray} {m : List ByteArray} (h1 : s.1 ∈ m) (h2 : noT s.2 = false → s.2 ∈ m) (hyk : ltT k y = false) (hno : ∀ z ∈ m, ltT k z = false → ltT y z = false) : inS s k = inS s y := by
  have e1 : ltT k s.1 = ltT y s.1 := by
    cases h : ltT k s.1
    · exact (hno _ h1 h).symm
    · exact (ge_lt hyk h).symm
  unfold inS
  rw [e1]
  cases hn : noT s.2
  · have e2 : ltT k s.2 = ltT y s.2 := by
      cases h : ltT k s.2
      · exact (hno _ (h2 hn) h).symm
      · exact (ge_lt hyk h).symm
    rw [e2]
  · rfl
theorem memL_same {l : List Sp} {y k : ByteArray} {m : List ByteArray} (h : ∀ s ∈ l, s.1 ∈ m ∧ (noT s.2 = false → s.2 ∈ m)) (hyk : ltT k y = false) (hno : ∀ z ∈ m, ltT k z = false → ltT y z = false) : memL l k = memL l y := by
  unfold memL
  induction l with
  | nil => rfl
  | cons s l ih =>
    rw [List.any_cons, List.any_cons, ih (fun t ht => h t (by simp [ht])), inS_same (h s (by simp)).1 (h s (by simp)).2 hyk hno]
theorem memL_ahead {l : List Sp} {k : ByteArray} {m : List ByteArray} (h : ∀ s ∈ l, s.1 ∈ m) (hk : ∀ x ∈ m, ltT k x = true) : memL l k = false :=
  memL_false.2 fun s hs => inS_below (hk _ (h s hs))
theorem setL_mem (n : Int) (a b : List Sp) (k : ByteArray) : memL (setL n a b) k = wantB n (memL a k) (memL b k) := by
  have ha : ∀ s ∈ a, s.1 ∈ marksL (a ++ b) ∧ (noT s.2 = false → s.2 ∈ marksL (a ++ b)) := fun s hs => ⟨(marksL_mem _ _).2 ⟨s, by simp [hs], .inl rfl⟩, fun hn => (marksL_mem _ _).2 ⟨s, by simp [hs], .inr ⟨hn, rfl⟩⟩⟩
  have hb : ∀ s ∈ b, s.1 ∈ marksL (a ++ b) ∧ (noT s.2 = false → s.2 ∈ marksL (a ++ b)) := fun s hs => ⟨(marksL_mem _ _).2 ⟨s, by simp [hs], .inl rfl⟩, fun hn => (marksL_mem _ _).2 ⟨s, by simp [hs], .inr ⟨hn, rfl⟩⟩⟩
  unfold setL
  have hr := marksL_rises (a ++ b)
  generalize marksL (a ++ b) = m at *
  have below : (∀ x ∈ m, ltT k x = true) → memL (buildL (fun k => wantB n (memL a k) (memL b k)) none m) k = wantB n (memL a k) (memL b k) := fun h => by
    rw [buildL_below _ m none k hr (Ahead.none _) h, memL_ahead (fun s hs => (ha s hs).1) h, memL_ahead (fun s hs => (hb s hs).1) h, wantB_ff]
  cases m with
  | nil => exact below fun x hx => by cases hx
  | cons x r =>
    cases hx : ltT k x
    · obtain ⟨y, hy, h1, h2, h3⟩ := buildL_at (fun k => wantB n (memL a k) (memL b k)) r x none k hr (Ahead.none _) hx
      rw [h3, memL_same ha h1 h2, memL_same hb h1 h2]
    · refine below fun z hz => ?_
      rcases List.mem_cons.1 hz with rfl | hz
      · exact hx
      · exact lt_trans hx ((List.pairwise_cons.1 hr).1 z hz)
def uniL (l : List Sp) : List Sp := setL 0 l []
theorem uniL_set (l : List Sp) : IsSet (uniL l) := setL_set _ _ _
theorem uniL_mem (l : List Sp) (k : ByteArray) : memL (uniL l) k = memL l k := by
  unfold uniL
  rw [setL_mem]
  simp [wantB, memL_nil]
theorem Uni.is {l u : List Sp} (h : Uni l u) : u = uniL l := h.eq (uniL_set l) (uniL_mem l)
end S3
end Go.Proofs.YtjlkgbejldcklaaGreat

set_option linter.unusedVariables false
set_option linter.unusedSimpArgs false
namespace Go.Proofs.YtjlkgbejldcklaaGreat
namespace S3
open Go.RowKit
theorem Row1.two {W : World} {b : Nat} {x y : ByteArray} (h : W.heap[b]? = some (.cells #[.string x, .string y] 9 (0, 0))) : W.cell? ⟨b, 0, none⟩ = some (.string x) ∧ W.cell? ⟨b, 1, none⟩ = some (.string y) := by
  constructor <;> simp [World.cell?, h]
end S3
end Go.Proofs.YtjlkgbejldcklaaGreat

namespace Go.Proofs.YtjlkgbejldcklaaGreat
namespace S3
open Go.RowKit
structure Aft (w : World) where
  x : World
  h : Below w.heap.size w x
instance Aft.some (w : World) : Nonempty (Aft w) := ⟨⟨w, Below.refl _ _⟩⟩
theorem Aft.cell {w : World} (y : Aft w) (n i : Nat) (hn : n < w.heap.size) : y.x.cell? ⟨n, i, none⟩ = w.cell? ⟨n, i, none⟩ := y.h.cell (p := ⟨n, i, none⟩) hn
theorem Aft.frozen {w : World} (y : Aft w) (n i : Nat) (hn : n < w.heap.size) : y.x.frozen? ⟨n, i, none⟩ = w.frozen? ⟨n, i, none⟩ := y.h.frozen (p := ⟨n, i, none⟩) hn
theorem Aft.lt {w : World} (y : Aft w) (n : Nat) (hn : n < w.heap.size) : n < y.x.heap.size := Nat.lt_of_lt_of_le hn y.h.size
attribute [go_sem] Aft.cell Aft.frozen
end S3
end Go.Proofs.YtjlkgbejldcklaaGreat
