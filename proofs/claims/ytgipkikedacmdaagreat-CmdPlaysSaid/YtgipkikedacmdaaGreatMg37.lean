/- Lists in memory whose elements take some cells each: those that came in, and those that are a call's own; appends. Conditions: lists of some millions of elements at most. -/
import Derived.Test.YtgipkikedacmdaaGreatMg03
import Derived.Test.YtgipkikedacmdaaGreatMg10
set_option maxRecDepth 100000
set_option maxHeartbeats 16000000
set_option linter.unusedVariables false
namespace Go.Proofs.YtgipkikedacmdaaGreat
open S3 SN
namespace SP
open Go.RowKit Go.Sort
structure Enc (α : Type) where
 enc : α → List Value
 K : Nat
 len : ∀ x, (enc x).length = K
 one : ∀ x, ∀ u ∈ enc x, u.oneCell' = true
 pos : 0 < K
section
variable {α : Type} {E : Enc α}
def RowG (E : Enc α) (w : World) (g o : Nat) (l : List α) : Prop := ∀ (i : Nat) x, l[i]? = some x → ∀ (j : Nat) u, (E.enc x)[j]? = some u → w.cell? ⟨g, o + i * E.K + j, none⟩ = some u
def SlG (E : Enc α) (w : World) (v : Value) (l : List α) : Prop := ∃ a cap, v = .slice a l.length cap ∧ (a = none → cap = 0) ∧ (l ≠ [] → ∃ g o, a = some ⟨g, o, none⟩ ∧ g < w.heap.size ∧ RowG E w g o l)
theorem RowG.later {B : Nat} {W wr : World} {g o : Nat} {l : List α} (h : RowG E W g o l) (hb : g < B) (hw : Below B W wr) : RowG E wr g o l :=
 fun i x hi j u hu => cell_in hw hb (h i x hi j u hu)
theorem SlG.later {W wr : World} {v : Value} {l : List α} (h : SlG E W v l) (hw : Below W.heap.size W wr) : SlG E wr v l := by
 obtain ⟨a, cap, hv, hn, hr⟩ := h
 refine ⟨a, cap, hv, hn, fun hne => ?_⟩
 obtain ⟨g, o, ha, hg, hl⟩ := hr hne
 exact ⟨g, o, ha, Nat.lt_of_lt_of_le hg hw.size, hl.later hg hw⟩
theorem SlG.form {w : World} {v : Value} {l : List α} (h : SlG E w v l) : ∃ a cap, v = .slice a l.length cap := by
 obtain ⟨a, cap, hv, _⟩ := h
 exact ⟨a, cap, hv⟩
theorem SlG.at {w : World} {a : Option Addr} {n cap : Nat} {l : List α} (h : SlG E w (.slice a n cap) l) {k : Nat} {x : α} (hs : l[k]? = some x) :
  ∃ g o, a = some ⟨g, o, none⟩ ∧ g < w.heap.size ∧ ∀ (j : Nat) u, (E.enc x)[j]? = some u → w.cell? ⟨g, o + k * E.K + j, none⟩ = some u := by
 obtain ⟨a', cap', hv, hn, hr⟩ := h
 simp only [Value.slice.injEq] at hv
 obtain ⟨rfl, rfl, rfl⟩ := hv
 have hne : l ≠ [] := by rintro rfl; simp at hs
 obtain ⟨g, o, ha, hg, hl⟩ := hr hne
 exact ⟨g, o, ha, hg, hl k x hs⟩
theorem SlG.nil (w : World) : SlG E w (.slice none 0 0) [] := ⟨none, 0, rfl, fun _ => rfl, fun h => absurd rfl h⟩
theorem SlG.zero (w : World) (a : Option Addr) (c : Nat) (h : a = none → c = 0) : SlG E w (.slice a 0 c) [] := ⟨a, c, rfl, h, fun h => absurd rfl h⟩
def cellsG (E : Enc α) (l : List α) : List Value := l.flatMap E.enc
theorem cellsG_length (l : List α) : (cellsG E l).length = l.length * E.K := by
 induction l with
 | nil => simp [cellsG]
 | cons a r ih =>
  have e : cellsG E (a :: r) = E.enc a ++ cellsG E r := rfl
  rw [e, List.length_append, E.len, ih, List.length_cons, Nat.add_mul, Nat.one_mul, Nat.add_comm]
theorem cellsG_append (l r : List α) : cellsG E (l ++ r) = cellsG E l ++ cellsG E r := by simp [cellsG]
theorem cellsG_at (l : List α) : ∀ (i : Nat) (x : α), l[i]? = some x → ∀ j, j < E.K → (cellsG E l)[i * E.K + j]? = (E.enc x)[j]? := by
 induction l with
 | nil => intro i s h; simp at h
 | cons a r ih =>
  intro i x h j hj
  have e : cellsG E (a :: r) = E.enc a ++ cellsG E r := rfl
  cases i with
  | zero =>
   simp only [List.getElem?_cons_zero, Option.some.injEq] at h
   subst h
   rw [e, Nat.zero_mul, Nat.zero_add, List.getElem?_append_left (by rw [E.len]; exact hj)]
  | succ i =>
   have h1 := ih i x (by simpa using h) j hj
   rw [e, List.getElem?_append_right (by rw [E.len, Nat.add_mul]; omega), E.len, ← h1]
   congr 1
   rw [Nat.add_mul]
   omega
theorem cellsG_one (l : List α) : ∀ u ∈ cellsG E l, u.oneCell' = true := by
 intro u hu
 obtain ⟨s, _, hs⟩ := List.mem_flatMap.1 hu
 exact E.one s u hs
theorem enc_lt {x : α} {j : Nat} {u : Value} (h : (E.enc x)[j]? = some u) : j < E.K := by
 have := (List.getElem?_eq_some_iff.1 h).1
 rwa [E.len] at this
theorem RowG.cells {w : World} {b o : Nat} {l : List α} (h : RowG E w b o l) : ∀ (j : Nat) (u : Value), (cellsG E l)[j]? = some u → w.cell? ((⟨b, o, none⟩ : Addr).add j) = some u := by
 intro j u hj
 have hlt : j < l.length * E.K := by
  have := (List.getElem?_eq_some_iff.1 hj).1
  rwa [cellsG_length] at this
 have hd : j / E.K < l.length := Nat.div_lt_of_lt_mul (by rw [Nat.mul_comm]; exact hlt)
 obtain ⟨x, hx⟩ := at_lt hd
 have hm := Nat.mod_lt j E.pos
 have e : j / E.K * E.K + j % E.K = j := by rw [Nat.mul_comm]; exact Nat.div_add_mod _ _
 have h1 := cellsG_at (E := E) l (j / E.K) x hx (j % E.K) hm
 rw [e, hj] at h1
 have h2 := h (j / E.K) x hx (j % E.K) u h1.symm
 rw [Go.WideShapes.add_plain]
 rw [Nat.add_assoc, e] at h2
 exact h2
def OwnG (E : Enc α) (T : TypeId) (w : World) (base : Nat) (v : Value) (l : List α) : Prop := w.ownsRow base T E.K v l.length (cellsG E l)
variable {T : TypeId}
theorem OwnG.row {w : World} {base : Nat} {v : Value} {l : List α} (h : OwnG E T w base v l) (hne : l ≠ []) :
  ∃ g cap, v = .slice (some ⟨g, 0, none⟩) l.length cap ∧ base ≤ g ∧ g < w.heap.size ∧ l.length ≤ cap ∧ cap ≤ 9223372036854775807 ∧ RowG E w g 0 l ∧ ∀ i, i < l.length * E.K → w.frozen? ⟨g, i, none⟩ = false := by
 obtain ⟨h1, h2 | ⟨g, cap, cur, hv, hg, hh, hn, hm, hs, hx⟩⟩ := h
 ·obtain ⟨rfl, hl⟩ := h2
  exact absurd (List.eq_nil_of_length_eq_zero hl) hne
 ·refine ⟨g, cap, hv, hg, lt_of_block hh, hn, by unfold maxLen at hm; omega, fun i x hi j u hu => ?_, fun i _ => by simp [World.frozen?, hh]⟩
  have hil := (List.getElem?_eq_some_iff.1 hi).1
  have hj := enc_lt hu
  have c1 := cellsG_at (E := E) l i x hi j hj
  rw [← hx, hu] at c1
  have hlt : i * E.K + j < l.length * E.K := by
   have := Nat.mul_le_mul_right E.K (show i + 1 ≤ l.length by omega)
   rw [Nat.add_mul] at this
   omega
  rw [List.getElem?_take_of_lt (by omega)] at c1
  rw [Nat.zero_add]
  simp only [World.cell?, hh]
  simpa using c1
theorem OwnG.sl {w : World} {base : Nat} {v : Value} {l : List α} (h : OwnG E T w base v l) : SlG E w v l := by
 obtain ⟨h1, h2 | ⟨g, cap, cur, hv, hg, hh, hn, hm, hs, hx⟩⟩ := id h
 ·obtain ⟨rfl, hl⟩ := h2
  obtain rfl := List.eq_nil_of_length_eq_zero hl
  exact SlG.nil w
 ·refine ⟨_, cap, hv, fun h => (by cases h), fun hne => ?_⟩
  obtain ⟨g', cap', hv', _, hg', _, _, hr, _⟩ := h.row hne
  rw [hv] at hv'
  simp only [Value.slice.injEq, Option.some.injEq, Addr.mk.injEq] at hv'
  obtain ⟨⟨rfl, _⟩, _⟩ := hv'
  exact ⟨g, 0, rfl, hg', hr⟩
theorem OwnG.later {W wr : World} {base : Nat} {v : Value} {l : List α} (h : OwnG E T W base v l) (hb : Below W.heap.size W wr) : OwnG E T wr base v l := by
 obtain ⟨h1, h2 | ⟨g, cap, cur, hv, hg, hh, hn, hm, hs, hx⟩⟩ := h
 ·exact ⟨h1, .inl h2⟩
 ·exact ⟨h1, .inr ⟨g, cap, cur, hv, hg, (hb.block g (lt_of_block hh)).trans hh, hn, hm, hs, hx⟩⟩
theorem OwnG.nil (w : World) (base : Nat) : OwnG E T w base (.slice none 0 0) [] := World.ownsRow_nil _ _ _ _
theorem OwnG.block {w : World} {base : Nat} {v : Value} {l : List α} (h : OwnG E T w base v l) : ∀ k, v.ownBlock = some k → base ≤ k ∧ k < w.heap.size := by
 intro k hk
 obtain ⟨h1, ⟨rfl, _⟩ | ⟨g, cap, cur, rfl, hg, hh, _⟩⟩ := h
 ·simp [Value.ownBlock] at hk
 ·simp [Value.ownBlock] at hk
  have := lt_of_block hh
  omega
theorem OwnG.mono {w : World} {base B : Nat} {v : Value} {d : List α} (h : OwnG E T w B v d) (hb : base ≤ B) : OwnG E T w base v d := by
 obtain ⟨h1, h2 | ⟨g, cap, cur, hv, hg, rest⟩⟩ := h
 ·exact ⟨h1, .inl h2⟩
 ·exact ⟨h1, .inr ⟨g, cap, cur, hv, Nat.le_trans hb hg, rest⟩⟩
theorem OwnG.form {w : World} {base : Nat} {v : Value} {l : List α} (h : OwnG E T w base v l) : ∃ a cap, v = .slice a l.length cap := h.sl.form
theorem OwnG.kept {w w' : World} {base : Nat} {v : Value} {d : List α} {row : Option Nat} (h : OwnG E T w base v d) (hg : w.grownBy w' row) (hne : v.ownBlock ≠ row ∨ v.ownBlock = none) : OwnG E T w' base v d := by
 obtain ⟨h1, h2 | ⟨g, cap, cur, rfl, hgb, hh, rest⟩⟩ := h
 ·exact ⟨h1, .inl h2⟩
 ·refine ⟨h1, .inr ⟨g, cap, cur, rfl, hgb, ?_, rest⟩⟩
  have hb : some g ≠ row := by
   rcases hne with h | h
   ·exact h
   ·cases h
  exact (hg.block g (lt_of_block hh) hb).trans hh
theorem own_emptyG (X : World) (T : TypeId) (n base : Nat) (h : X.heap.size = n) (hb : base ≤ n) : OwnG E T (X.alloc (.cells #[] T)) base (.slice (some ⟨n, 0, none⟩) 0 0) [] := by
 subst h
 refine ⟨cellsG_length [], .inr ⟨X.heap.size, 0, #[], rfl, hb, ?_, Nat.le_refl _, Nat.zero_le _, by simp, by simp [cellsG]⟩⟩
 show (X.heap.push _)[X.heap.size]? = _
 simp
theorem append_G {w : World} {ops : Array Oper} {rest : List Oper} {o : Oper} {a : Act} {Q : Exit → Act → World → Prop} (S : TypeId) (zv : Value) (bytes : Nat)
  (hinfo : (Tryz.prog.info? T).map (fun i => (i.zero, i.size, i.bytes)) = some (some zv, E.K, bytes)) (hund : Tryz.prog.underlying S = some (.slice T)) (hzc : zv.cells.size = E.K) (hbytes : bytes ≤ 1000)
  (hgd : o.guard = none) (s x : Operand)
  (ho : o.op = .call { callee := .builtin .append, args := #[s, x], argTypes := #[S, S] })
  (base : Nat) (v : Value) (d : List α) (hs : a.eval s = v) (hown : OwnG E T w base v d) (xv : Value) (l : List α) (hx : a.eval x = xv) (hsl : SlG E w xv l)
  (hlen : d.length + l.length ≤ 4000000) (hbase : base ≤ w.heap.size)
  (h : ∀ v' w', OwnG E T w' base v' (d ++ l) → w.grownBy w' v.ownBlock → wpList Tryz.prog ops Q rest (a.put o.dst v') w') : wpList Tryz.prog ops Q (o :: rest) a w := by
 obtain ⟨i0, hi, hz0, hz1, hz2⟩ := info_parts hinfo
 obtain ⟨ad, cap, rfl, hn, hr⟩ := hsl
 cases ad with
 | none =>
  obtain rfl : cap = 0 := hn rfl
  obtain rfl : l = [] := by
   apply Classical.byContradiction
   intro hne
   obtain ⟨_, _, h, _⟩ := hr hne
   cases h
  refine wpList_append_own_none hgd s x S ho base T i0 E.K hund hi v d.length (cellsG E d) hs hown hx ?_
  exact h v w (by rw [List.append_nil]; exact hown) ⟨rfl, rfl, rfl, Nat.le_refl _, fun _ _ _ => rfl⟩
 | some ad =>
  have hc : ∀ (j : Nat) (u : Value), (cellsG E l)[j]? = some u → w.cell? (ad.add j) = some u := by
   intro j u hj
   have hne : l ≠ [] := by rintro rfl; simp [cellsG] at hj
   obtain ⟨g, o', ha, _, hrow⟩ := hr hne
   simp only [Option.some.injEq] at ha
   subst ha
   exact hrow.cells j u hj
  have hb2 : (d.length + l.length) * bytes ≤ 4000000 * 1000 := Nat.mul_le_mul hlen hbytes
  refine wpList_append_own _ hgd s x S ho base T i0 zv E.K bytes hund hi hz0 hz1 hz2 hzc E.pos v d.length (cellsG E d) hs hown ad l.length cap (cellsG E l) hx (cellsG_length l) hc (cellsG_one l) (by unfold maxLen; omega) (by omega) hbase ?_
  intro v' w' h2 h3 _
  refine h v' w' ?_ h3
  show w'.ownsRow base _ E.K v' _ _
  rw [List.length_append, cellsG_append]
  exact h2
end
end SP
end Go.Proofs.YtgipkikedacmdaaGreat
