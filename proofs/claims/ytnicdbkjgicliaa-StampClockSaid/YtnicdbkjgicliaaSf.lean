/- StampClock: every clock tells what the document says, whatever is done to it. Conditions: none. -/
import Derived.Test.YtnicdbkjgicliaaSk
namespace Go.Proofs.Ytnicdbkjgicliaa
open Go.ChangeShapes Go.WideShapes Go.ChangeAt Go.RowKit Go.Joins Go.Deep Go.Sort

/-- An act, as data. -/
structure ActD where
  kind : Int
  a : Option Addr
  cap : Nat
  l : List (Int × Int)
  to : Int

/-- From offset o on, block b holds these acts, three cells each. -/
def Acts (w : World) (b o : Nat) (l : List ActD) : Prop := ∀ i x, l[i]? = some x → w.cell? ⟨b, o + i * 3, none⟩ = some (.int .i64 x.kind) ∧ w.cell? ⟨b, o + i * 3 + 1, none⟩ = some (.slice x.a x.l.length x.cap) ∧ w.cell? ⟨b, o + i * 3 + 2, none⟩ = some (.int .i64 x.to)
def AL (w : World) (a : Option Addr) (l : List ActD) : Prop := l ≠ [] → ∃ b o, a = some ⟨b, o, none⟩ ∧ b < w.heap.size ∧ Acts w b o l
theorem Acts.later {W wr : World} {b o : Nat} {l : List ActD} (h : Acts W b o l) (hb : b < W.heap.size) (hw : Below W.heap.size W wr) : Acts wr b o l :=
  fun i x hi => ⟨cell_in hw hb (h i x hi).1, cell_in hw hb (h i x hi).2.1, cell_in hw hb (h i x hi).2.2⟩
def ActOk (w : World) (x : ActD) : Prop := SL w x.a x.l ∧ (x.a = none → x.cap = 0) ∧ ∀ b o, x.a = some ⟨b, o, none⟩ → x.l ≠ [] → b < w.heap.size
theorem cellsAct : Try.prog.cellsOf 54 = 3 := by kernel_rfl
theorem cells_list : Try.prog.cellsOf 31 = 1 := by kernel_rfl

section
variable {H : Type} {enc : TypeId × Value → H}
theorem open_acts {r : Reach} {b0 : Nat} {w : World} {v : Value} {d : DataW H} {p : List MemPlace} (hv : Value.okWide Try.prog w r b0 46 v) (h : DataW.Trod enc Try.prog w 0 (fun _ => true) true 46 v d p) :
    ∃ (a : Option Addr) (l : List ActD) (cap : Nat), v = .slice a l.length cap ∧ AL w a l ∧ l.length ≤ 9223372036854775807 ∧ ∀ x ∈ l, ActOk w x ∧ x.l.length ≤ 9223372036854775807 := by
  obtain ⟨a0, len, cap, rfl⟩ := okWide_slice Try.underlying46 hv
  obtain ⟨fuel, hf⟩ := h
  have hf' : DataW.trod enc Try.prog w 0 (fun _ => true) true fuel 46 [.slice a0 len cap] = some (d, p) := by simpa [Value.cells] using hf
  rcases open_slice Try.underlying46 hf' with ⟨hcs, _⟩ | ⟨a, len', cap', m, n, D, Pl, hcs, _, hl, hm, hmm, hx, hi⟩
  · simp only [List.cons.injEq, Value.slice.injEq, and_true] at hcs
    obtain ⟨rfl, rfl, rfl⟩ := hcs
    exact ⟨none, [], 0, rfl, fun h => absurd rfl h, by simp, fun s hs => (by simp at hs)⟩
  · simp only [List.cons.injEq, Value.slice.injEq, and_true] at hcs
    obtain ⟨rfl, rfl, rfl⟩ := hcs
    simp only [if_true] at hmm
    subst hmm
    have hone : ∀ i, i < len → ∃ x : ActD, w.cell? (a.add (i * 3)) = some (.int .i64 x.kind) ∧ w.cell? ((a.add (i * 3)).add 1) = some (.slice x.a x.l.length x.cap) ∧ w.cell? ((a.add (i * 3)).add 2) = some (.int .i64 x.to) ∧ ActOk w x ∧ x.l.length ≤ 9223372036854775807 := by
      intro i hlt
      obtain ⟨cs', hc, ht⟩ := hi i (by omega)
      rw [cellsAct] at hc
      obtain ⟨_, hlen, hat⟩ := World.cells?_some hc
      match cs', hlen with
      | [c0, c1, c2], _ =>
        obtain ⟨y0, y1, y2, k, _, _, h0, h1, h2⟩ := trod_struct3 Try.underlying54 ht
        have e0 : DataW.trod enc Try.prog w 0 (fun _ => true) true k 3 [c0] = some y0 := by simpa [cells_int] using h0
        have e1 : DataW.trod enc Try.prog w 0 (fun _ => true) true k 31 [c1] = some y1 := by simpa [cells_list] using h1
        have e2 : DataW.trod enc Try.prog w 0 (fun _ => true) true k 2 [c2] = some y2 := by simpa [cells_i64] using h2
        obtain ⟨x, hx0, _, _⟩ := DataW.trod_int Try.underlying3 e0
        obtain ⟨la, l, lc, hl0, hsl, hlm, hln, hlb, _⟩ := stamps_cells e1
        obtain ⟨y, hy0, _, _⟩ := DataW.trod_int Try.underlying2 e2
        simp only [List.cons.injEq, and_true] at hx0 hy0 hl0
        subst hx0 hy0 hl0
        exact ⟨⟨x, la, lc, l, y⟩, by simpa [Addr.add] using hat 0 (by omega), hat 1 (by omega), hat 2 (by omega), ⟨hsl, hln, hlb⟩, hlm⟩
    obtain ⟨f, hf2⟩ : ∃ f : Nat → ActD, ∀ i, i < len → w.cell? (a.add (i * 3)) = some (.int .i64 (f i).kind) ∧ w.cell? ((a.add (i * 3)).add 1) = some (.slice (f i).a (f i).l.length (f i).cap) ∧ w.cell? ((a.add (i * 3)).add 2) = some (.int .i64 (f i).to) ∧ ActOk w (f i) ∧ (f i).l.length ≤ 9223372036854775807 :=
      ⟨fun i => if h : i < len then Classical.choose (hone i h) else ⟨0, none, 0, [], 0⟩, fun i hlt => by simp only [hlt, dif_pos]; exact Classical.choose_spec (hone i hlt)⟩
    have hlen : ((List.range len).map f).length = len := by simp
    refine ⟨some a, (List.range len).map f, _, by rw [hlen], fun hne => ?_, by rw [hlen]; unfold maxLen at hm; omega, fun s hs => ?_⟩
    · have hpos : 0 < len := by
        rcases Nat.eq_zero_or_pos len with h | h
        · subst h; simp at hne
        · exact h
      have h00 := (hf2 0 hpos).1
      obtain ⟨b, off, spot⟩ := a
      have hspot : spot = none := by simpa [Addr.add] using World.cell?_spot h00
      subst hspot
      refine ⟨b, off, rfl, ?_, fun i x hi' => ?_⟩
      · simpa [Addr.add] using World.block_lt_of_cell? _ _ h00
      · have hil : i < len := by
          have := (List.getElem?_eq_some_iff.1 hi').1
          simpa using this
        have hfi : f i = x := by simpa [List.getElem?_map, List.getElem?_range, hil] using hi'
        obtain ⟨g0, g1, g2, _, _⟩ := hf2 i hil
        rw [hfi] at g0 g1 g2
        rw [Go.WideShapes.add_plain] at g0
        rw [Go.WideShapes.add_plain, Go.WideShapes.add_plain] at g1 g2
        exact ⟨g0, g1, g2⟩
    · obtain ⟨i, hi', rfl⟩ := List.mem_map.1 hs
      exact ⟨(hf2 i (List.mem_range.1 hi')).2.2.2.1, (hf2 i (List.mem_range.1 hi')).2.2.2.2⟩
end

theorem nextS_if (T : Int) (h : 0 ≤ T) (hM : T ≤ 1099511627776) : 0 ≤ (if 1099511627776 ≤ T then T else T + 1) ∧ (if 1099511627776 ≤ T then T else T + 1) ≤ 1099511627776 := by split <;> omega
theorem tickT_in (T x : Int) (h : 0 ≤ T) (hM : T ≤ 1099511627776) : 0 ≤ tickT T x ∧ tickT T x ≤ 1099511627776 := by unfold tickT; split <;> omega
theorem seeT_in (l : List (Int × Int)) : ∀ T : Int, 0 ≤ T → T ≤ 1099511627776 → 0 ≤ seeT T l ∧ seeT T l ≤ 1099511627776 := by
  induction l with
  | nil => intro T h hM; exact ⟨h, hM⟩
  | cons a r ih =>
    intro T h hM
    obtain ⟨h1, h2⟩ := tickT_in T a.1 h hM
    exact ih _ h1 h2

set_option maxRecDepth 100000 in
set_option maxHeartbeats 4000000 in
theorem stampClock_walk (n last : Int) (a : Option Addr) (cap : Nat) (l : List ActD) (w : World) (hl : AL w a l) (hm : l.length ≤ 9223372036854775807) (hok : ∀ x ∈ l, ActOk w x ∧ x.l.length ≤ 9223372036854775807) :
    Calls Try.prog 6 #[.int .i64 n, .int .i64 last, .slice a l.length cap] w fun e w' => e = .returned (.bool true) ∧ Below w.heap.size w w' := by
  have HL := Lib.hid hl
  have HOK := Lib.hid hok
  clear hl hok
  by_cases hlen : 60 < l.length
  · have hlenI : (60 : Int) < (l.length : Int) := by omega
    clear hlen
    go_enter Try.func6, Try.ntmps6
    go_wp2_with (go_at_call 18; refine (live_any _).mono ?_; rintro e w3 ⟨rfl, hb⟩; have HB3 := Lib.hid hb; clear hb)
    go_ret
    exact ⟨rfl, HB3.out⟩
  have hlenI : ¬ (60 : Int) < (l.length : Int) := by omega
  by_cases n1 : n < 1
  · have hno : newOk n last = false := by simp only [newOk, decide_eq_false_iff_not]; omega
    have HNO := Lib.hid hno
    clear hno
    go_enter Try.func6, Try.ntmps6
    go_wp2_with (first | (go_at_call 32; refine (new_no n last HNO.out _).mono ?_; rintro e w' ⟨rfl, rfl⟩) | (go_at_call 14; refine (num_any _ _).mono ?_; rintro e w' ⟨rfl, rfl⟩) | (go_at_call 18; refine (live_any _).mono ?_; rintro e w3 ⟨rfl, hb⟩; have HB3 := Lib.hid hb; clear hb))
    go_ret
    exact ⟨rfl, HB3.out⟩
  by_cases n2 : 7 < n
  · have hno : newOk n last = false := by simp only [newOk, decide_eq_false_iff_not]; omega
    have HNO := Lib.hid hno
    clear hno
    go_enter Try.func6, Try.ntmps6
    go_wp2_with (first | (go_at_call 32; refine (new_no n last HNO.out _).mono ?_; rintro e w' ⟨rfl, rfl⟩) | (go_at_call 14; refine (num_any _ _).mono ?_; rintro e w' ⟨rfl, rfl⟩) | (go_at_call 18; refine (live_any _).mono ?_; rintro e w3 ⟨rfl, hb⟩; have HB3 := Lib.hid hb; clear hb))
    go_ret
    exact ⟨rfl, HB3.out⟩
  by_cases n3 : last < 0
  · have hno : newOk n last = false := by simp only [newOk, decide_eq_false_iff_not]; omega
    have HNO := Lib.hid hno
    clear hno
    go_enter Try.func6, Try.ntmps6
    go_wp2_with (first | (go_at_call 32; refine (new_no n last HNO.out _).mono ?_; rintro e w' ⟨rfl, rfl⟩) | (go_at_call 14; refine (num_any _ _).mono ?_; rintro e w' ⟨rfl, rfl⟩) | (go_at_call 18; refine (live_any _).mono ?_; rintro e w3 ⟨rfl, hb⟩; have HB3 := Lib.hid hb; clear hb))
    go_ret
    exact ⟨rfl, HB3.out⟩
  by_cases n4 : 1099511627776 < last
  · have hno : newOk n last = false := by simp only [newOk, decide_eq_false_iff_not]; omega
    have HNO := Lib.hid hno
    clear hno
    go_enter Try.func6, Try.ntmps6
    go_wp2_with (first | (go_at_call 32; refine (new_no n last HNO.out _).mono ?_; rintro e w' ⟨rfl, rfl⟩) | (go_at_call 14; refine (num_any _ _).mono ?_; rintro e w' ⟨rfl, rfl⟩) | (go_at_call 18; refine (live_any _).mono ?_; rintro e w3 ⟨rfl, hb⟩; have HB3 := Lib.hid hb; clear hb))
    go_ret
    exact ⟨rfl, HB3.out⟩
  have hok : newOk n last = true := by simp only [newOk, decide_eq_true_eq]; omega
  have HNEW := Lib.hid hok
  have hle : l.length ≤ 1000000 := by omega
  clear hok hlen
  go_enter Try.func6, Try.ntmps6
  go_wp2_with fail
  refine (new_yes n last HNEW.out _).mono ?_
  rintro e w1 ⟨rfl, rfl⟩
  go_wp2_with (go_at_call 14; refine (num_any _ _).mono ?_; rintro e w' ⟨rfl, rfl⟩)
  have hC0 : Clk ((w.alloc (Obj.cells #[Value.int IntKind.i64 n, Value.int IntKind.i64 last] 76)).alloc (Obj.cells #[Value.int IntKind.i64 n, Value.int IntKind.i64 last] 52)) w.heap.size n last := (clk_new w n last).alloc _
  have hR0 : Rck ((w.alloc (Obj.cells #[Value.int IntKind.i64 n, Value.int IntKind.i64 last] 76)).alloc (Obj.cells #[Value.int IntKind.i64 n, Value.int IntKind.i64 last] 52)) (w.heap.size + 1) n last := blk_new' _ _ _ _ (by simp)
  have hB0 : Below w.heap.size w ((w.alloc (Obj.cells #[Value.int IntKind.i64 n, Value.int IntKind.i64 last] 76)).alloc (Obj.cells #[Value.int IntKind.i64 n, Value.int IntKind.i64 last] 52)) := blAlloc (blAlloc (Below.refl _ _) _) _
  generalize (w.alloc (Obj.cells #[Value.int IntKind.i64 n, Value.int IntKind.i64 last] 76)).alloc (Obj.cells #[Value.int IntKind.i64 n, Value.int IntKind.i64 last] 52) = W at *
  have HC0 := Lib.hid hC0
  have HR0 := Lib.hid hR0
  have HB0 := Lib.hid hB0
  clear hC0 hR0 hB0
  go_loopw [10] (fun i wr => ∃ (k : Nat) (T : Int), k ≤ l.length ∧ i = .int .i64 k ∧ 0 ≤ T ∧ T ≤ 1099511627776 ∧ Below w.heap.size w wr ∧ Clk wr w.heap.size n T ∧ Rck wr (w.heap.size + 1) n T) (fun i _ => l.length - (intOf i).toNat)
  case atStart => exact ⟨0, last, Nat.zero_le _, rfl, by omega, by omega, HB0.out, HC0.out, HR0.out⟩
  case round =>
    obtain ⟨k, T, hk, rfl, hT0, hTM, hbel, hclk, hrck⟩ := hrel
    have HB := Lib.hid hbel
    have HC := Lib.hid hclk
    have HR := Lib.hid hrck
    clear hbel hclk hrck
    by_cases hlt : k < l.length
    · obtain ⟨⟨kind, la, lc, ll, to⟩, hxy⟩ : ∃ x, l[k]? = some x := ⟨_, List.getElem?_eq_getElem hlt⟩
      obtain ⟨b, o, rfl, hb, hl⟩ := HL.out (by rintro rfl; exact absurd hlt (Nat.not_lt_zero _))
      obtain ⟨⟨hsl, hsn, hsb⟩, hslm⟩ := HOK.out _ (List.mem_of_getElem? hxy)
      obtain ⟨hx, hy, hz⟩ := hl.later hb HB.out k _ hxy
      have HSL := Lib.hid hsl
      have HSN := Lib.hid hsn
      have HSB := Lib.hid hsb
      simp only at hx hy hz HSL HSN HSB hslm
      clear hxy hl hsl hsn hsb
      by_cases hll : 60 < ll.length
      · have hllI : (60 : Int) < (ll.length : Int) := by omega
        clear hll
        go_wp2_with (go_at_call 18; refine (live_any _).mono ?_; rintro e w6 ⟨rfl, hb⟩; have HB6 : Hid (Below w.heap.size w w6) := blThen (blAlloc HB.out _) hb; clear hb)
        go_ret
        exact ⟨rfl, HB6.out⟩
      have hllI : ¬ (60 : Int) < (ll.length : Int) := by omega
      have hlle : ll.length ≤ 1000000 := by omega
      clear hll
      have hCwr : w.heap.size + 1 < wr.heap.size := HR.out.lt
      by_cases k0 : kind = 0
      · subst k0
        obtain ⟨vt, vn, ve, hv⟩ : ∃ vt vn ve, nextS n T = (vt, vn, ve) := ⟨_, _, _, rfl⟩
        obtain ⟨hT0', hTM'⟩ := nextS_if T hT0 hTM
        have hnow := now_any w.heap.size n T (wr.alloc (Obj.cells #[Value.int IntKind.i64 0, Value.slice la ll.length lc, Value.int IntKind.i64 to] 54)) (HC.out.alloc _) hT0
        have href := fun W h => refnow_any (w.heap.size + 1) n T W h hT0 hTM
        rw [hv] at hnow
        rw [hv] at href
        generalize (if 1099511627776 ≤ T then T else T + 1) = T' at *
        have HNOW := Lib.hid hnow
        have HREF := Lib.hid href
        clear hnow href hv
        go_wp2_with fail
        refine HNOW.out.mono ?_
        rintro e w2 ⟨rfl, hbut, hclk⟩
        have hR2 : Rck w2 (w.heap.size + 1) n T := Blk.but (HR.out.alloc _) hbut (by omega)
        have hB2 : Below w.heap.size w w2 := But.below (blAlloc HB.out _) hbut (Nat.le_refl _) (by simp; omega)
        have HR3 : Hid (Rck (w2.alloc (Obj.cells #[Value.int IntKind.i64 vt, Value.int IntKind.i64 vn] 23)) (w.heap.size + 1) n T) := Blk.alloc hR2 _
        have HC3 : Hid (Clk (w2.alloc (Obj.cells #[Value.int IntKind.i64 vt, Value.int IntKind.i64 vn] 23)) w.heap.size n T') := hclk.alloc _
        have HS3 : Hid (Own2 (w2.alloc (Obj.cells #[Value.int IntKind.i64 vt, Value.int IntKind.i64 vn] 23)) w2.heap.size vt vn) := own2_new _ _ _
        have HB3 : Hid (Below w.heap.size w (w2.alloc (Obj.cells #[Value.int IntKind.i64 vt, Value.int IntKind.i64 vn] 23))) := blAlloc hB2 _
        have hw2 : w.heap.size + 1 < w2.heap.size := hR2.lt
        clear hbut hclk hR2 hB2
        go_wp2_with fail
        refine (HREF.out _ HR3.out).mono ?_
        rintro e w4 ⟨rfl, hbut, hrck⟩
        have hC4 : Clk w4 w.heap.size n T' := HC3.out.but hbut (by omega)
        have hS4 : Own2 w4 w2.heap.size vt vn := HS3.out.but hbut (by omega)
        have hB4 : Below w.heap.size w w4 := But.below HB3.out hbut (by omega) HB3.out.size
        have HRx : Hid (Rck (w4.alloc (Obj.cells #[Value.int IntKind.i64 vt, Value.int IntKind.i64 vn] 23)) (w.heap.size + 1) n T') := Blk.alloc hrck _
        have HCx : Hid (Clk (w4.alloc (Obj.cells #[Value.int IntKind.i64 vt, Value.int IntKind.i64 vn] 23)) w.heap.size n T') := hC4.alloc _
        have HBx : Hid (Below w.heap.size w (w4.alloc (Obj.cells #[Value.int IntKind.i64 vt, Value.int IntKind.i64 vn] 23))) := blAlloc hB4 _
        have s0 := hS4.c0
        have s1 := hS4.c1
        have hsw : w2.heap.size < w4.heap.size := hS4.lt
        clear hbut hrck hC4 hS4 hB4 HR3 HC3 HS3 HB3
        go_wp2_with fail
        generalize w4.alloc (Obj.cells #[Value.int IntKind.i64 vt, Value.int IntKind.i64 vn] 23) = W5 at *
        clear s0 s1 hsw
        have e1 := HCx.out.c1
        have r1 := HRx.out.cell 1 _ rfl
        have hCw := HCx.out.lt
        have hRw := HRx.out.lt
        go_wp2_with (first | (go_at_call 14; refine (num_any _ _).mono ?_; rintro e w' ⟨rfl, rfl⟩))
        refine region_aft (by kernel_rfl) (by kernel_rfl) ?_
        repeat (go_big_quiet_step (first | (go_at_call 39; exact aft_same (last_any _ _ _ _ (HCx.out.aft (Aft.h _))))))
        refine wpQuiet_nil ?_
        rintro w9 ⟨z, rfl⟩
        go_wp2
        go_roundw
        case rel => exact ⟨k + 1, _, hlt, by go_num, hT0', hTM', blThen HBx.out z.h, HCx.out.aft z.h, HRx.out.aft z.h⟩
        case measure => simp [intOf]; omega
      have k0b : (kind == 0) = false := by simpa using k0
      by_cases k1 : kind = 1
      · subst k1
        clear k0 k0b
        obtain ⟨hT0', hTM'⟩ := seeT_in ll T hT0 hTM
        have hA1 : Blk (wr.alloc (Obj.cells #[Value.int IntKind.i64 1, Value.slice la ll.length lc, Value.int IntKind.i64 to] 54)) wr.heap.size #[Value.int IntKind.i64 1, Value.slice la ll.length lc, Value.int IntKind.i64 to] 54 := blk_new _ _ _
        have hC1 : Clk (wr.alloc (Obj.cells #[Value.int IntKind.i64 1, Value.slice la ll.length lc, Value.int IntKind.i64 to] 54)) w.heap.size n T := HC.out.alloc _
        have hR1 : Rck (wr.alloc (Obj.cells #[Value.int IntKind.i64 1, Value.slice la ll.length lc, Value.int IntKind.i64 to] 54)) (w.heap.size + 1) n T := Blk.alloc HR.out _
        have HB1 : Hid (Below w.heap.size w (wr.alloc (Obj.cells #[Value.int IntKind.i64 1, Value.slice la ll.length lc, Value.int IntKind.i64 to] 54))) := blAlloc HB.out _
        have hown := own_any la lc ll (wr.alloc (Obj.cells #[Value.int IntKind.i64 1, Value.slice la ll.length lc, Value.int IntKind.i64 to] 54)) hlle (HSL.out.later HB1.out) HSN.out
        have HOWN := Lib.hid hown
        have HA1 := Lib.hid hA1
        have HC1 := Lib.hid hC1
        have HR1 := Lib.hid hR1
        clear hown hA1 hC1 hR1
        go_wp2_with fail
        refine HOWN.out.mono ?_
        rintro e w2 ⟨a1, c1, rfl, hsl, hn1, hge, hb⟩
        have HA2 : Hid (Blk w2 wr.heap.size #[Value.int IntKind.i64 1, Value.slice la ll.length lc, Value.int IntKind.i64 to] 54) := HA1.out.aft hb
        have HR2 : Hid (Rck w2 (w.heap.size + 1) n T) := Blk.aft HR1.out hb
        have HB2 : Hid (Below w.heap.size w w2) := blThen HB1.out hb
        have hsee := see_any w.heap.size n T a1 c1 ll w2 hlle hsl (fun bl o he => by
          have := hge bl o he
          simp only [World.size_alloc] at this
          omega) (HC1.out.aft hb)
        have HSEE := Lib.hid hsee
        clear hsee hsl hn1 hge hb
        go_wp2_with fail
        refine HSEE.out.mono ?_
        rintro e w3 ⟨rfl, hbut, hclk⟩
        have hA3 : Blk w3 wr.heap.size #[Value.int IntKind.i64 1, Value.slice la ll.length lc, Value.int IntKind.i64 to] 54 := HA2.out.but hbut (by omega)
        have hR3 : Rck w3 (w.heap.size + 1) n T := Blk.but HR2.out hbut (by omega)
        have hB3 : Below w.heap.size w w3 := But.below HB2.out hbut (Nat.le_refl _) HB2.out.size
        have HC3 : Hid (Clk w3 w.heap.size n (seeT T ll)) := hclk
        have HB3 : Hid (Below w.heap.size w w3) := hB3
        have hsee := refsee_any (w.heap.size + 1) n T la lc ll w3 hlle (HSL.out.later hB3) (fun bl o he hne => by
          have := HSB.out bl o he hne
          omega) hR3
        have HSEE2 := Lib.hid hsee
        have t1 : w3.cell? ⟨wr.heap.size, 1, none⟩ = some (Value.slice la ll.length lc) := hA3.cell 1 _ rfl
        clear hbut hclk hA3 hR3 hB3 hsee HSEE
        go_wp2_with fail
        refine HSEE2.out.mono ?_
        rintro e w4 ⟨rfl, hbut, hrck⟩
        have HCx : Hid (Clk w4 w.heap.size n (seeT T ll)) := HC3.out.but hbut (by omega)
        have HRx : Hid (Rck w4 (w.heap.size + 1) n (seeT T ll)) := hrck
        have HBx : Hid (Below w.heap.size w w4) := But.below HB3.out hbut (by omega) HB3.out.size
        clear hbut hrck t1
        have e1 := HCx.out.c1
        have r1 := HRx.out.cell 1 _ rfl
        have hCw := HCx.out.lt
        have hRw := HRx.out.lt
        go_wp2_with (first | (go_at_call 14; refine (num_any _ _).mono ?_; rintro e w' ⟨rfl, rfl⟩))
        refine region_aft (by kernel_rfl) (by kernel_rfl) ?_
        repeat (go_big_quiet_step (first | (go_at_call 39; exact aft_same (last_any _ _ _ _ (HCx.out.aft (Aft.h _))))))
        refine wpQuiet_nil ?_
        rintro w9 ⟨z, rfl⟩
        go_wp2
        go_roundw
        case rel => exact ⟨k + 1, _, hlt, by go_num, hT0', hTM', blThen HBx.out z.h, HCx.out.aft z.h, HRx.out.aft z.h⟩
        case measure => simp [intOf]; omega
      have k1b : (kind == 1) = false := by simpa using k1
      by_cases k2 : kind = 2
      · subst k2
        clear k0 k0b k1 k1b
        obtain ⟨hT0', hTM'⟩ := tickT_in T to hT0 hTM
        have hA1 : Blk (wr.alloc (Obj.cells #[Value.int IntKind.i64 2, Value.slice la ll.length lc, Value.int IntKind.i64 to] 54)) wr.heap.size #[Value.int IntKind.i64 2, Value.slice la ll.length lc, Value.int IntKind.i64 to] 54 := blk_new _ _ _
        have hR1 : Rck (wr.alloc (Obj.cells #[Value.int IntKind.i64 2, Value.slice la ll.length lc, Value.int IntKind.i64 to] 54)) (w.heap.size + 1) n T := Blk.alloc HR.out _
        have HB1 : Hid (Below w.heap.size w (wr.alloc (Obj.cells #[Value.int IntKind.i64 2, Value.slice la ll.length lc, Value.int IntKind.i64 to] 54))) := blAlloc HB.out _
        have htick := tick_any w.heap.size n T to (wr.alloc (Obj.cells #[Value.int IntKind.i64 2, Value.slice la ll.length lc, Value.int IntKind.i64 to] 54)) (HC.out.alloc _)
        have HTICK := Lib.hid htick
        have HA1 := Lib.hid hA1
        have HR1 := Lib.hid hR1
        clear htick hA1 hR1
        go_wp2_with fail
        refine HTICK.out.mono ?_
        rintro e w3 ⟨rfl, hbut, hclk⟩
        have hA3 : Blk w3 wr.heap.size #[Value.int IntKind.i64 2, Value.slice la ll.length lc, Value.int IntKind.i64 to] 54 := HA1.out.but hbut (by omega)
        have hR3 : Rck w3 (w.heap.size + 1) n T := Blk.but HR1.out hbut (by omega)
        have HB3 : Hid (Below w.heap.size w w3) := But.below HB1.out hbut (Nat.le_refl _) HB1.out.size
        have HC3 : Hid (Clk w3 w.heap.size n (tickT T to)) := hclk
        have hsee := reftick_any (w.heap.size + 1) n T to w3 hR3
        have HSEE2 := Lib.hid hsee
        have t2 : w3.cell? ⟨wr.heap.size, 2, none⟩ = some (Value.int IntKind.i64 to) := hA3.cell 2 _ rfl
        clear hbut hclk hA3 hR3 hsee HTICK
        go_wp2_with fail
        refine HSEE2.out.mono ?_
        rintro e w4 ⟨rfl, hbut, hrck⟩
        have HCx : Hid (Clk w4 w.heap.size n (tickT T to)) := HC3.out.but hbut (by omega)
        have HRx : Hid (Rck w4 (w.heap.size + 1) n (tickT T to)) := hrck
        have HBx : Hid (Below w.heap.size w w4) := But.below HB3.out hbut (by omega) HB3.out.size
        clear hbut hrck t2
        have e1 := HCx.out.c1
        have r1 := HRx.out.cell 1 _ rfl
        have hCw := HCx.out.lt
        have hRw := HRx.out.lt
        go_wp2_with (first | (go_at_call 14; refine (num_any _ _).mono ?_; rintro e w' ⟨rfl, rfl⟩))
        refine region_aft (by kernel_rfl) (by kernel_rfl) ?_
        repeat (go_big_quiet_step (first | (go_at_call 39; exact aft_same (last_any _ _ _ _ (HCx.out.aft (Aft.h _))))))
        refine wpQuiet_nil ?_
        rintro w9 ⟨z, rfl⟩
        go_wp2
        go_roundw
        case rel => exact ⟨k + 1, _, hlt, by go_num, hT0', hTM', blThen HBx.out z.h, HCx.out.aft z.h, HRx.out.aft z.h⟩
        case measure => simp [intOf]; omega
      have k2b : (kind == 2) = false := by simpa using k2
      clear k0 k1 k2
      have hT0' := hT0
      have hTM' := hTM
      have HCx : Hid (Clk (wr.alloc (Obj.cells #[Value.int IntKind.i64 kind, Value.slice la ll.length lc, Value.int IntKind.i64 to] 54)) w.heap.size n T) := HC.out.alloc _
      have HRx : Hid (Rck (wr.alloc (Obj.cells #[Value.int IntKind.i64 kind, Value.slice la ll.length lc, Value.int IntKind.i64 to] 54)) (w.heap.size + 1) n T) := Blk.alloc HR.out _
      have HBx : Hid (Below w.heap.size w (wr.alloc (Obj.cells #[Value.int IntKind.i64 kind, Value.slice la ll.length lc, Value.int IntKind.i64 to] 54))) := blAlloc HB.out _
      go_wp2_with fail
      generalize wr.alloc (Obj.cells #[Value.int IntKind.i64 kind, Value.slice la ll.length lc, Value.int IntKind.i64 to] 54) = W5 at *
      have e1 := HCx.out.c1
      have r1 := HRx.out.cell 1 _ rfl
      have hCw := HCx.out.lt
      have hRw := HRx.out.lt
      go_wp2_with (first | (go_at_call 14; refine (num_any _ _).mono ?_; rintro e w' ⟨rfl, rfl⟩))
      refine region_aft (by kernel_rfl) (by kernel_rfl) ?_
      repeat (go_big_quiet_step (first | (go_at_call 39; exact aft_same (last_any _ _ _ _ (HCx.out.aft (Aft.h _))))))
      refine wpQuiet_nil ?_
      rintro w9 ⟨z, rfl⟩
      go_wp2
      go_roundw
      case rel => exact ⟨k + 1, _, hlt, by go_num, hT0', hTM', blThen HBx.out z.h, HCx.out.aft z.h, HRx.out.aft z.h⟩
      case measure => simp [intOf]; omega
    · go_wp2_with (go_at_call 18; refine (live_any _).mono ?_; rintro e w6 ⟨rfl, hb⟩; have HB6 : Hid (Below w.heap.size w w6) := blThen HB.out hb; clear hb)
      go_ret
      exact ⟨rfl, HB6.out⟩

set_option maxRecDepth 100000 in
theorem stampClock_lifted (os : Os) (started : os.Started) (H : Type) (enc : TypeId × Value → H) :
    ReturnsInHanded {} Try.checked os 6 .any (Rows.stampClockSpec.pre6 enc Try.prog Try.f6 Rows.stampClockRow.domain false) (Rows.stampClockSpec.post enc Try.prog Try.f6 false true false false) := by
  refine law_lift (C := Try.checked) own0 started (by kernel_rfl) Try.func6 laid0 rfl (by kernel_rfl) (fun _ _ _ _ => trodAll_mk1 (shut_bool Try.underlying4 true)) (fun ds h => match ds, h with | [_, _, _], _ => ⟨rfl, rfl, rfl⟩)
    (ChangeSpec.witness6 (enc := enc) (C := Try.checked) false ⟨#[], #[.int .i64 0, .int .i64 0, .slice none 0 0], []⟩ 8 (by kernel_rfl) (by kernel_rfl) (by kernel_rfl) (by kernel_rfl)) ?_
  intro W base args ds before hval0 hA0 hlt
  have hval : ∀ (j : Nat) t v, Try.f6.params[j]? = some t → args[j]? = some v → Value.okWide Try.prog W .any base t v := hval0
  have hA : DataW.TrodAll enc Try.prog W 0 (fun _ => true) true Try.f6.params.toList args.toList ds before := hA0
  rw [Try.params6] at hA hval
  obtain ⟨v0, v1, v2, d0, d1, d2, p0, p1, p2, rfl, rfl, rfl, h0, h1, h2⟩ := trodAll_three hA
  obtain ⟨n, rfl, rfl, rfl, wn⟩ := open_int Try.underlying3 (hval 0 3 v0 rfl rfl) h0
  obtain ⟨last, rfl, rfl, rfl, wlast⟩ := open_int Try.underlying2 (hval 1 2 v1 rfl rfl) h1
  obtain ⟨a, l, cap, rfl, hl2, hm2, hok2⟩ := open_acts (hval 2 46 v2 rfl rfl) h2
  exact stampClock_walk n last a cap l W hl2 hm2 hok2

theorem stampClock_holds : Rows.StampClockSaid :=
  OpenClaim.holds_of_wide 6 Try.f6 rfl rfl rfl rfl rfl rfl rfl ⟨rfl, rfl, rfl, rfl, rfl⟩ rfl rfl rfl rfl rfl (by kernel_rfl) Try.func6 (by kernel_rfl)
    (of_decide_eq_true (by kernel_rfl)) (by unfold Func.isWrapper; rw [if_neg (of_decide_eq_false (by kernel_rfl))]; exact ⟨rfl, rfl⟩)
    (fun os started H enc _ => stampClock_lifted os started H enc)

#print axioms stampClock_holds

end Go.Proofs.Ytnicdbkjgicliaa
