/- A law's things, opened; the reference's Stamps. Conditions: as each theorem states. -/
import Derived.Test.YtjojjpfjennnoaaGa
namespace Go.Proofs.Ytjojjpfjennnoaa
open Go.ChangeShapes Go.WideShapes Go.ChangeAt Go.RowKit Go.Joins Go.Deep

set_option maxRecDepth 100000 in
set_option maxHeartbeats 1000000 in
theorem rstamps_any (w : World) (g : Option Nat) (v : Value) (l : List UInt8) (g2 : Nat) (a : Option Addr) (c : Nat) (xs : List (Int × Int)) (hr : Row w g v l) (hx : SL w g2 a xs) (hg : g ≠ some g2) (hlen : l.length + 16 * xs.length + 32 ≤ 1099511627776) :
    Calls Try.prog 44 #[v, .slice a xs.length c] w (Rowed w g (l ++ sts xs)) := by
  have HR := Lib.hid hr
  have HX := Lib.hid hx
  have HN : Hid (l.length + 8 ≤ 1099511627776) := by show _ ≤ _; omega
  clear hr hx
  go_enter Try.func44, Try.ntmps44
  go_wp2_with fail
  refine (rint_any _ g _ l (xs.length : Int) HR.out HN.out).mono ?_
  rintro e w1 ⟨v1, g1, rfl, h1, h2⟩
  obtain ⟨a1, n1, c1, rfl⟩ := h1.form
  have H1 := Lib.hid h1
  have H2 := Lib.hid h2
  have HX1 := Lib.hid (HX.out.keep h2.keeps hg)
  clear h1 h2
  go_wp2_with fail
  go_loopw [0, 5] (fun v i wr => ∃ j : Nat, j ≤ xs.length ∧ i = .int .i64 j ∧ ∃ g', Row wr g' v (l ++ i8 xs.length ++ (xs.take j).flatMap st) ∧ RowStep g g' w wr) (fun _ i _ => xs.length - (intOf i).toNat)
  case atStart => exact ⟨0, Nat.zero_le _, rfl, g1, by simpa using H1.out, H2.out⟩
  case round =>
    obtain ⟨j, hj, rfl, g', hrj, hst⟩ := hrel
    have HS := Lib.hid hst
    obtain ⟨aj, nj, cj, rfl⟩ := hrj.form
    have HRJ := Lib.hid hrj
    clear hst hrj
    by_cases hlt : j < xs.length
    · obtain ⟨⟨x, y⟩, hx⟩ := get_lt hlt
      obtain ⟨o, rfl, hc⟩ := HX.out (not_nil hlt)
      have cx := HS.out.keeps.cell hg (hc j x y hx).1
      have cy := HS.out.keeps.cell hg (hc j x y hx).2
      have HL : Hid (l ++ i8 xs.length ++ (xs.take j).flatMap st ++ st (x, y) = l ++ i8 xs.length ++ (xs.take (j + 1)).flatMap st) := by
        show _ = _
        rw [take_flat st xs hx]; simp
      have HNJ : Hid ((l ++ i8 xs.length ++ (xs.take j).flatMap st).length + 16 ≤ 1099511627776) := by
        show _ ≤ _
        rw [List.length_append, List.length_append, i8_length, flat_length st 16 st_length, List.length_take]
        omega
      clear hc hx
      go_wp2_with (go_at_call 43; refine (rstamp_any _ g' _ _ x y HRJ.out HNJ.out).mono ?_; rintro e w2 ⟨v2, g2', rfl, h1, h2⟩; have H3 := Lib.hid h1; have H4 := Lib.hid h2; clear h1 h2)
      go_roundw
      case rel => exact ⟨j + 1, hlt, by go_num, g2', by rw [← HL.out]; exact H3.out, HS.out.trans H4.out⟩
      case measure => simp [intOf]; omega
    · obtain rfl : j = xs.length := by omega
      have HT : Hid (l ++ i8 xs.length ++ (xs.take xs.length).flatMap st = l ++ sts xs) := by show _ = _; rw [List.take_length, List.append_assoc]; rfl
      rw [HT.out] at HRJ
      go_wp2
      go_ret
      exact ⟨_, g', rfl, HRJ.out, HS.out⟩

/-- A thing that is laid, or read. -/
structure Th where
  k : Int
  n : Int
  s : ByteArray
  b : Bool
  t : Int × Int
  l : List (Int × Int)
  a : Option Addr
  c : Nat
  g : Nat
/-- A thing's numbers are such as Go has; its text and list within the form's reach. -/
structure Th.ok (x : Th) : Prop where
  n : (Lit.int .i64 x.n).wf = true
  t1 : (Lit.int .i64 x.t.1).wf = true
  t2 : (Lit.int .i64 x.t.2).wf = true
  l : ∀ s ∈ x.l, (Lit.int .i64 s.1).wf = true ∧ (Lit.int .i64 s.2).wf = true
  s : x.s.size ≤ 140737488355328
  len : 16 * x.l.length ≤ 140737488355328
/-- From offset o on, block g holds the thing x. -/
structure ThAt (w : World) (g o : Nat) (x : Th) : Prop where
  k : w.cell? ⟨g, o, none⟩ = some (.int .i64 x.k)
  n : w.cell? ⟨g, o + 1, none⟩ = some (.int .i64 x.n)
  s : w.cell? ⟨g, o + 2, none⟩ = some (.string x.s)
  b : w.cell? ⟨g, o + 3, none⟩ = some (.bool x.b)
  t1 : w.cell? ⟨g, o + 4, none⟩ = some (.int .i64 x.t.1)
  t2 : w.cell? ⟨g, o + 5, none⟩ = some (.int .i64 x.t.2)
  l : w.cell? ⟨g, o + 6, none⟩ = some (.slice x.a x.l.length x.c)
/-- A slice of things that came in. -/
def Ths (w : World) (g : Nat) (a : Option Addr) (l : List Th) : Prop :=
  l ≠ [] → g < w.heap.size ∧ ∃ o, a = some ⟨g, o, none⟩ ∧ ∀ j x, l[j]? = some x → ThAt w g (o + j * 7) x ∧ x.ok ∧ SL w x.g x.a x.l ∧ (x.l ≠ [] → x.g < w.heap.size)

theorem cellsTh : Try.prog.cellsOf 62 = 7 := by kernel_rfl
theorem cells_bool : Try.prog.cellsOf 4 = 1 := by kernel_rfl
theorem cells_sts : Try.prog.cellsOf 52 = 1 := by kernel_rfl
theorem bytes_st : Try.prog.bytesOf 49 = 16 := by kernel_rfl

section
variable {H : Type} {enc : TypeId × Value → H}
theorem trod_struct6 {P : Program} {w : World} {base : Nat} {spare : Nat → Bool} {held : Bool} {t : TypeId} {f0 f1 f2 f3 f4 f5 : Field} {fuel : Nat} {cs : List Value} {x : DataW H × List MemPlace} (ht : P.underlying t = some (.struct #[f0, f1, f2, f3, f4, f5])) (h : DataW.trod enc P w base spare held fuel t cs = some x) :
    ∃ y0 y1 y2 y3 y4 y5 n, x.1 = .agg [y0.1, y1.1, y2.1, y3.1, y4.1, y5.1] ∧ cs.length = P.cellsOf t ∧ DataW.trod enc P w base spare held n f0.type ((cs.drop f0.offset).take (P.cellsOf f0.type)) = some y0 ∧
      DataW.trod enc P w base spare held n f1.type ((cs.drop f1.offset).take (P.cellsOf f1.type)) = some y1 ∧ DataW.trod enc P w base spare held n f2.type ((cs.drop f2.offset).take (P.cellsOf f2.type)) = some y2 ∧
      DataW.trod enc P w base spare held n f3.type ((cs.drop f3.offset).take (P.cellsOf f3.type)) = some y3 ∧ DataW.trod enc P w base spare held n f4.type ((cs.drop f4.offset).take (P.cellsOf f4.type)) = some y4 ∧
      DataW.trod enc P w base spare held n f5.type ((cs.drop f5.offset).take (P.cellsOf f5.type)) = some y5 := by
  obtain ⟨xs, n, _, rfl, hl, hlen, hf⟩ := DataW.trod_struct ht h
  match xs, hlen with
  | [y0, y1, y2, y3, y4, y5], _ => exact ⟨y0, y1, y2, y3, y4, y5, n, by simp, hl, by simpa using hf 0 f0 rfl, by simpa using hf 1 f1 rfl, by simpa using hf 2 f2 rfl, by simpa using hf 3 f3 rfl, by simpa using hf 4 f4 rfl, by simpa using hf 5 f5 rfl⟩

/-- Stamps that came in, with what they weigh. -/
theorem stamps_cells_r {w : World} {cs : List Value} {fuel : Nat} {x : DataW H × List MemPlace} (hf' : DataW.trod enc Try.prog w 0 (fun _ => true) true fuel 52 cs = some x) :
    ∃ (a : Option Addr) (l : List (Int × Int)) (cap g : Nat), cs = [.slice a l.length cap] ∧ SL w g a l ∧ (l ≠ [] → g < w.heap.size) ∧ (∀ s ∈ l, (Lit.int .i64 s.1).wf = true ∧ (Lit.int .i64 s.2).wf = true) ∧ (l = [] ∨ ∃ n ∈ x.1.weights Try.prog 52, 16 * l.length ≤ n) := by
  obtain ⟨a, l, cap, g, hcs, hs, _, hg, hw⟩ := stamps_cells hf'
  refine ⟨a, l, cap, g, hcs, hs, hg, hw, ?_⟩
  rcases open_slice Try.underlying52 hf' with ⟨hcs2, _⟩ | ⟨a', len, cap', m, n, D, Pl, hcs2, _, hl, hm, hmm, hx, _⟩
  · left
    rw [hcs] at hcs2
    simp only [List.cons.injEq, Value.slice.injEq, and_true] at hcs2
    exact List.eq_nil_of_length_eq_zero hcs2.2.1
  · right
    rw [hcs] at hcs2
    simp only [List.cons.injEq, Value.slice.injEq, and_true] at hcs2
    subst hx
    refine ⟨_, by simp only [DataW.weights, Try.underlying52]; exact List.mem_cons_self, ?_⟩
    rw [bytes_st]
    simp only [List.length_map, List.length_range]
    omega

/-- A thing's seven cells. -/
theorem open_thing {w : World} {c0 c1 c2 c3 c4 c5 c6 : Value} {fuel : Nat} {x : DataW H × List MemPlace} (h : DataW.trod enc Try.prog w 0 (fun _ => true) true fuel 62 [c0, c1, c2, c3, c4, c5, c6] = some x)
    (hB : ∀ n ∈ x.1.weights Try.prog 62, n ≤ 140737488355328) :
    ∃ th : Th, c0 = .int .i64 th.k ∧ c1 = .int .i64 th.n ∧ c2 = .string th.s ∧ c3 = .bool th.b ∧ c4 = .int .i64 th.t.1 ∧ c5 = .int .i64 th.t.2 ∧ c6 = .slice th.a th.l.length th.c ∧ th.ok ∧ SL w th.g th.a th.l ∧ (th.l ≠ [] → th.g < w.heap.size) := by
  obtain ⟨y0, y1, y2, y3, y4, y5, n, hx, _, h0, h1, h2, h3, h4, h5⟩ := trod_struct6 Try.underlying62 h
  have e0 : DataW.trod enc Try.prog w 0 (fun _ => true) true n 3 [c0] = some y0 := by simpa [cells_int] using h0
  have e1 : DataW.trod enc Try.prog w 0 (fun _ => true) true n 2 [c1] = some y1 := by simpa [cells_i64] using h1
  have e2 : DataW.trod enc Try.prog w 0 (fun _ => true) true n 9 [c2] = some y2 := by simpa [cells_str] using h2
  have e3 : DataW.trod enc Try.prog w 0 (fun _ => true) true n 4 [c3] = some y3 := by simpa [cells_bool] using h3
  have e4 : DataW.trod enc Try.prog w 0 (fun _ => true) true n 49 [c4, c5] = some y4 := by simpa [cellsSt] using h4
  have e5 : DataW.trod enc Try.prog w 0 (fun _ => true) true n 52 [c6] = some y5 := by simpa [cells_sts] using h5
  obtain ⟨k, hk, _, _⟩ := DataW.trod_int Try.underlying3 e0
  obtain ⟨m, hm, _, wm⟩ := DataW.trod_int Try.underlying2 e1
  obtain ⟨s, hs, hy2, _⟩ := DataW.trod_string Try.underlying9 e2
  obtain ⟨b, hb, _⟩ := DataW.trod_bool Try.underlying4 e3
  obtain ⟨z0, z1, q, _, _, hz0, hz1⟩ := trod_struct2 Try.underlying49 e4
  have f0 : DataW.trod enc Try.prog w 0 (fun _ => true) true q 2 [c4] = some z0 := by simpa [cells_i64] using hz0
  have f1 : DataW.trod enc Try.prog w 0 (fun _ => true) true q 3 [c5] = some z1 := by simpa [cells_int] using hz1
  obtain ⟨t1, ht1, _, w1⟩ := DataW.trod_int Try.underlying2 f0
  obtain ⟨t2, ht2, _, w2⟩ := DataW.trod_int Try.underlying3 f1
  obtain ⟨a, l, cap, g, hl, hsl, hg, hw, hwt⟩ := stamps_cells_r e5
  simp only [List.cons.injEq, and_true] at hk hm hs hb ht1 ht2 hl
  have hwx : x.1.weights Try.prog 62 = DataW.weightsEach Try.prog [3, 2, 9, 4, 49, 52] [y0.1, y1.1, y2.1, y3.1, y4.1, y5.1] := by
    rw [hx]
    simp only [DataW.weights, Try.underlying62]
    rfl
  rw [hwx] at hB
  have hs47 : s.size ≤ 140737488355328 := by
    refine hB _ (DataW.weights_mem_each (j := 2) rfl rfl s.size ?_)
    rw [hy2]
    have := ba_len s
    simp only [DataW.weights, List.mem_singleton]
    exact this.symm
  have hl47 : 16 * l.length ≤ 140737488355328 := by
    rcases hwt with rfl | ⟨r, hr, hle⟩
    · simp
    · exact Nat.le_trans hle (hB _ (DataW.weights_mem_each (j := 5) rfl rfl r hr))
  exact ⟨⟨k, m, s, b, (t1, t2), l, a, cap, g⟩, hk, hm, hs, hb, ht1, ht2, hl, ⟨wm, w1, w2, hw, hs47, hl47⟩, hsl, hg⟩

/-- Things that came in. -/
theorem open_things {r : Reach} {b0 : Nat} {w : World} {v : Value} {d : DataW H} {p : List MemPlace} (hv : Value.okWide Try.prog w r b0 22 v) (h : DataW.Trod enc Try.prog w 0 (fun _ => true) true 22 v d p)
    {ts : List TypeId} {ds : List (DataW H)} (hsz : (DataW.weightsEach Try.prog ts ds).all (· ≤ reachBytes) = true) {j : Nat} (ht : ts[j]? = some 22) (hd : ds[j]? = some d) :
    ∃ (a : Option Addr) (l : List Th) (cap g : Nat), v = .slice a l.length cap ∧ l.length ≤ maxLen ∧ Ths w g a l := by
  obtain ⟨a0, len, cap, rfl⟩ := okWide_slice Try.underlying22 hv
  obtain ⟨fuel, hf⟩ := h
  have hf' : DataW.trod enc Try.prog w 0 (fun _ => true) true fuel 22 [.slice a0 len cap] = some (d, p) := by simpa [Value.cells] using hf
  rcases open_slice Try.underlying22 hf' with ⟨hcs, _⟩ | ⟨a, len', cap', m, n, D, Pl, hcs, _, hl, hm, hmm, hx, hi⟩
  · simp only [List.cons.injEq, Value.slice.injEq, and_true] at hcs
    obtain ⟨rfl, rfl, rfl⟩ := hcs
    exact ⟨none, [], 0, 0, rfl, Nat.zero_le _, fun h => absurd rfl h⟩
  · simp only [List.cons.injEq, Value.slice.injEq, and_true] at hcs
    obtain ⟨rfl, rfl, rfl⟩ := hcs
    simp only [if_true] at hmm
    subst hmm
    simp only [Prod.mk.injEq] at hx
    obtain ⟨rfl, _⟩ := hx
    have hone : ∀ i, i < len → ∃ th : Th, w.cell? (a.add (i * 7)) = some (.int .i64 th.k) ∧ w.cell? ((a.add (i * 7)).add 1) = some (.int .i64 th.n) ∧ w.cell? ((a.add (i * 7)).add 2) = some (.string th.s) ∧ w.cell? ((a.add (i * 7)).add 3) = some (.bool th.b) ∧
        w.cell? ((a.add (i * 7)).add 4) = some (.int .i64 th.t.1) ∧ w.cell? ((a.add (i * 7)).add 5) = some (.int .i64 th.t.2) ∧ w.cell? ((a.add (i * 7)).add 6) = some (.slice th.a th.l.length th.c) ∧ th.ok ∧ SL w th.g th.a th.l ∧ (th.l ≠ [] → th.g < w.heap.size) := by
      intro i hlt
      obtain ⟨cs', hc, htr⟩ := hi i (by omega)
      rw [cellsTh] at hc
      obtain ⟨_, hlen, hat⟩ := World.cells?_some hc
      match cs', hlen with
      | [c0, c1, c2, c3, c4, c5, c6], _ =>
        obtain ⟨th, rfl, rfl, rfl, rfl, rfl, rfl, rfl, hok, hsl, hg⟩ := open_thing htr fun k hk => reach_of hsz ht hd (weights_elem Try.underlying22 (List.mem_map.2 ⟨i, List.mem_range.2 hlt, rfl⟩) hk)
        exact ⟨th, by simpa [Addr.add] using hat 0 (by omega), hat 1 (by omega), hat 2 (by omega), hat 3 (by omega), hat 4 (by omega), hat 5 (by omega), hat 6 (by omega), hok, hsl, hg⟩
    obtain ⟨f, hf2⟩ : ∃ f : Nat → Th, ∀ i, i < len → w.cell? (a.add (i * 7)) = some (.int .i64 (f i).k) ∧ w.cell? ((a.add (i * 7)).add 1) = some (.int .i64 (f i).n) ∧ w.cell? ((a.add (i * 7)).add 2) = some (.string (f i).s) ∧ w.cell? ((a.add (i * 7)).add 3) = some (.bool (f i).b) ∧
        w.cell? ((a.add (i * 7)).add 4) = some (.int .i64 (f i).t.1) ∧ w.cell? ((a.add (i * 7)).add 5) = some (.int .i64 (f i).t.2) ∧ w.cell? ((a.add (i * 7)).add 6) = some (.slice (f i).a (f i).l.length (f i).c) ∧ (f i).ok ∧ SL w (f i).g (f i).a (f i).l ∧ ((f i).l ≠ [] → (f i).g < w.heap.size) :=
      ⟨fun i => if h : i < len then Classical.choose (hone i h) else ⟨0, 0, ⟨#[]⟩, false, (0, 0), [], none, 0, 0⟩, fun i hlt => by simp only [hlt, dif_pos]; exact Classical.choose_spec (hone i hlt)⟩
    have hlen : ((List.range len).map f).length = len := by simp
    by_cases hz0 : len = 0
    · subst hz0
      exact ⟨some a, [], m, 0, rfl, Nat.zero_le _, fun h => absurd rfl h⟩
    · have h00 := (hf2 0 (by omega)).1
      have e : a.add (0 * 7) = a := by rw [Nat.zero_mul]; unfold Addr.add; split <;> simp_all
      rw [e] at h00
      obtain ⟨b, o, rfl⟩ := addr_plain h00
      refine ⟨_, (List.range len).map f, m, b, by rw [hlen], by rw [hlen]; omega, fun _ => ⟨World.block_lt_of_cell? _ _ h00, o, rfl, fun i x hi' => ?_⟩⟩
      have hil : i < len := by
        have := (List.getElem?_eq_some_iff.1 hi').1
        simpa using this
      have hfi : f i = x := by simpa [List.getElem?_map, List.getElem?_range, hil] using hi'
      have hh := hf2 i hil
      rw [hfi] at hh
      simp only [Go.WideShapes.add_plain] at hh
      obtain ⟨q0, q1, q2, q3, q4, q5, q6, hok, hsl, hg⟩ := hh
      exact ⟨⟨q0, q1, q2, q3, q4, q5, q6⟩, hok, hsl, hg⟩
end

end Go.Proofs.Ytjojjpfjennnoaa
