/- Lists of stamps in memory, and contracts of the functions of package stamp and of its reference that only read a list. Conditions: the list has at most a million stamps. -/
import Derived.Test.YtnicdbkjgicliaaSp
namespace Go.Proofs.Ytnicdbkjgicliaa
open Go.RowKit Go.Sort

/-- From offset o on, block b holds the stamps of l, two cells each. -/
def Lst (w : World) (b o : Nat) (l : List (Int × Int)) : Prop := ∀ i x y, l[i]? = some (x, y) → w.cell? ⟨b, o + i * 2, none⟩ = some (.int .i64 x) ∧ w.cell? ⟨b, o + i * 2 + 1, none⟩ = some (.int .i64 y)
/-- A slice's address a leads to the stamps of l (whatever it is where l is empty). -/
def SL (w : World) (a : Option Addr) (l : List (Int × Int)) : Prop := l ≠ [] → ∃ b o, a = some ⟨b, o, none⟩ ∧ b < w.heap.size ∧ Lst w b o l

theorem cell_in {W wr : World} (h : Below W.heap.size W wr) {b o : Nat} {v : Value} (hb : b < W.heap.size) (hc : W.cell? ⟨b, o, none⟩ = some v) : wr.cell? ⟨b, o, none⟩ = some v :=
  (h.cell (p := ⟨b, o, none⟩) hb).trans hc
theorem Lst.later {W wr : World} {b o : Nat} {l : List (Int × Int)} (h : Lst W b o l) (hb : b < W.heap.size) (hw : Below W.heap.size W wr) : Lst wr b o l :=
  fun i x y hi => ⟨cell_in hw hb (h i x y hi).1, cell_in hw hb (h i x y hi).2⟩
theorem SL.later {W wr : World} {a : Option Addr} {l : List (Int × Int)} (h : SL W a l) (hw : Below W.heap.size W wr) : SL wr a l := by
  intro hne
  obtain ⟨b, o, ha, hb, hl⟩ := h hne
  exact ⟨b, o, ha, Nat.lt_of_lt_of_le hb hw.size, hl.later hb hw⟩
theorem ret_bool {a b : Bool} (h : a = b) : Ending.returned (.bool a) = .returned (.bool b) := by rw [h]
theorem ret_int {a b : Int} (h : a = b) : Ending.returned (.int .i64 a) = .returned (.int .i64 b) := by rw [h]
theorem ne_of_lt {l : List (Int × Int)} {k : Nat} (h : k < l.length) : l ≠ [] := by
  rintro rfl
  exact absurd h (Nat.not_lt_zero _)
theorem at_lt {l : List (Int × Int)} {k : Nat} (h : k < l.length) : ∃ x y, l[k]? = some (x, y) := ⟨_, _, List.getElem?_eq_getElem h⟩

theorem mem_of_at {l : List (Int × Int)} {s : Int × Int} {k : Nat} (h : l[k]? = some s) : decide (s ∈ l) = true := by
  simpa using List.mem_of_getElem? h
theorem not_mem_of_none {l : List (Int × Int)} {s : Int × Int} (h : ∀ j, j < l.length → l[j]? ≠ some s) : decide (s ∈ l) = false := by
  simp only [decide_eq_false_iff_not]
  intro hm
  obtain ⟨i, hi, he⟩ := List.mem_iff_getElem.1 hm
  exact h i hi (by rw [List.getElem?_eq_getElem hi, he])

/-- Block b is two cells of its own: a stamp's. -/
def Own2 (w : World) (b : Nat) (x y : Int) : Prop := w.heap[b]? = some (.cells #[.int .i64 x, .int .i64 y] 23 (0, 0))

theorem blAlloc {w x : World} (h : Below w.heap.size w x) (ob : Obj) : Below w.heap.size w (x.alloc ob) := h.alloc h.size ob
theorem blGrown {w x : World} (h : Below w.heap.size w x) (q : Nat) (os : Array Obj) : Below w.heap.size w (grow (x.drewN q) os) := h.trans ((grow_below x q os).mono h.size)
theorem blSet {w x : World} (h : Below w.heap.size w x) {p : Addr} (hp : w.heap.size ≤ p.block) (u : Value) : Below w.heap.size w (x.setCell p u) := h.setCell hp u
theorem blDrewN {w x : World} (h : Below w.heap.size w x) (n : Nat) : Below w.heap.size w (x.drewN n) := ⟨h.os, h.tape, h.output, h.size, h.block⟩
theorem blThen {w x y : World} (h : Below w.heap.size w x) (k : Below x.heap.size x y) : Below w.heap.size w y := h.trans (k.mono h.size)
theorem cell?_grown_past (w : World) (q : Nat) (os : Array Obj) (n i : Nat) (hn : n < w.heap.size) : (grow (w.drewN q) os).cell? ⟨n, i, none⟩ = w.cell? ⟨n, i, none⟩ := (grow_below w q os).cell hn
theorem frozen?_grown_past (w : World) (q : Nat) (os : Array Obj) (n i : Nat) (hn : n < w.heap.size) : (grow (w.drewN q) os).frozen? ⟨n, i, none⟩ = w.frozen? ⟨n, i, none⟩ := (grow_below w q os).frozen hn
theorem size_grown (w : World) (q : Nat) (os : Array Obj) : (grow (w.drewN q) os).heap.size = w.heap.size + os.size := by simp [grow, World.drewN]
theorem grown_grown (w : World) (a b : Nat) (x y : Array Obj) : grow ((grow (w.drewN a) x).drewN b) y = grow (w.drewN (a + b)) (x ++ y) := by
  simp [grow, World.drewN, Array.append_assoc, Nat.add_assoc]
attribute [go_sem] cell?_grown_past frozen?_grown_past size_grown grown_grown
theorem cell_grown {w : World} {a : Addr} {v : Value} (h : w.cell? a = some v) (q : Nat) (os : Array Obj) : (grow (w.drewN q) os).cell? a = some v :=
  ((grow_below w q os).cell (World.block_lt_of_cell? _ _ h)).trans h
theorem free_grown {w : World} {a : Addr} {v : Value} (hc : w.cell? a = some v) (h : w.frozen? a = false) (q : Nat) (os : Array Obj) : (grow (w.drewN q) os).frozen? a = false :=
  ((grow_below w q os).frozen (World.block_lt_of_cell? _ _ hc)).trans h
theorem Own2.set_other {w : World} {b : Nat} {x y : Int} (h : Own2 w b x y) {p : Addr} (hp : b ≠ p.block) (u : Value) : Own2 (w.setCell p u) b x y := (Below.heap_setCell _ _ _ _ hp).trans h
theorem block_setCell {w : World} {b i : Nat} {c : Array Value} {t : TypeId} (h : w.heap[b]? = some (.cells c t (0, 0))) (u : Value) : (w.setCell ⟨b, i, none⟩ u).heap[b]? = some (.cells (c.setIfInBounds i u) t (0, 0)) := by
  have hlt := lt_of_block h
  have h' : w.heap[b] = .cells c t (0, 0) := by simpa [Array.getElem?_eq_getElem hlt] using h
  show (w.heap.modify b _)[b]? = _
  rw [Array.getElem?_eq_getElem (by simpa using hlt), Array.getElem_modify_self, h']
  rfl
theorem Own2.set {w : World} {b : Nat} {x y : Int} (h : Own2 w b x y) (x' y' : Int) : Own2 ((w.setCell ⟨b, 0, none⟩ (.int .i64 x')).setCell ⟨b, 1, none⟩ (.int .i64 y')) b x' y' :=
  block_setCell (block_setCell h (.int .i64 x')) (.int .i64 y')
theorem Own2.lt {w : World} {b : Nat} {x y : Int} (h : Own2 w b x y) : b < w.heap.size := lt_of_block h
theorem Own2.c0 {w : World} {b : Nat} {x y : Int} (h : Own2 w b x y) : w.cell? ⟨b, 0, none⟩ = some (.int .i64 x) := by unfold Own2 at h; simp [World.cell?, h]
theorem Own2.c1 {w : World} {b : Nat} {x y : Int} (h : Own2 w b x y) : w.cell? ⟨b, 1, none⟩ = some (.int .i64 y) := by unfold Own2 at h; simp [World.cell?, h]
theorem Own2.f0 {w : World} {b : Nat} {x y : Int} (h : Own2 w b x y) : w.frozen? ⟨b, 0, none⟩ = false := by unfold Own2 at h; simp [World.frozen?, h]
theorem Own2.f1 {w : World} {b : Nat} {x y : Int} (h : Own2 w b x y) : w.frozen? ⟨b, 1, none⟩ = false := by unfold Own2 at h; simp [World.frozen?, h]
theorem Own2.later {w wr : World} {b B : Nat} {x y : Int} (h : Own2 w b x y) (hb : Below B w wr) (hB : b < B) : Own2 wr b x y := (hb.block b hB).trans h
theorem own2_new (w : World) (x y : Int) : Own2 (w.alloc (Obj.cells #[Value.int IntKind.i64 x, Value.int IntKind.i64 y] 23)) w.heap.size x y := by
  show (w.heap.push _)[w.heap.size]? = _
  simp
theorem own2_new0 (w : World) (x y : Int) (ob : Obj) : Own2 ((w.alloc (Obj.cells #[Value.int IntKind.i64 x, Value.int IntKind.i64 y] 23)).alloc ob) w.heap.size x y :=
  (own2_new w x y).later ((Below.refl _ _).alloc (Nat.le_refl _) _) (by simp)
theorem own2_new1 (w : World) (x y : Int) (ob : Obj) : Own2 ((w.alloc ob).alloc (Obj.cells #[Value.int IntKind.i64 x, Value.int IntKind.i64 y] 23)) (w.heap.size + 1) x y := by
  have h := own2_new (w.alloc ob) x y
  rwa [World.size_alloc] at h

set_option maxHeartbeats 400000 in
theorem has_any (a : Option Addr) (cap : Nat) (l : List (Int × Int)) (t n : Int) (w : World) (hlen : l.length ≤ 1000000) (hl : SL w a l) :
    Calls Try.prog 28 #[.slice a l.length cap, .agg #[.int .i64 t, .int .i64 n]] w fun e w' => e = .returned (.bool (decide ((t, n) ∈ l))) ∧ Below w.heap.size w w' := by
  have HL := Lib.hid hl
  clear hl
  generalize hv : decide ((t, n) ∈ l) = v
  have HV := Lib.hid hv
  clear hv
  go_enter Try.func28, Try.ntmps28
  go_wp2
  have hB1 : Hid (Below w.heap.size w (w.alloc (Obj.cells #[Value.int IntKind.i64 t, Value.int IntKind.i64 n] 23))) := (Below.refl _ _).alloc (Nat.le_refl _) _
  have hC0 : (w.alloc (Obj.cells #[Value.int IntKind.i64 t, Value.int IntKind.i64 n] 23)).cell? ⟨w.heap.size, 0, none⟩ = some (.int .i64 t) := by go_simp
  have hC1 : (w.alloc (Obj.cells #[Value.int IntKind.i64 t, Value.int IntKind.i64 n] 23)).cell? ⟨w.heap.size, 1, none⟩ = some (.int .i64 n) := by go_simp
  have hS : w.heap.size < (w.alloc (Obj.cells #[Value.int IntKind.i64 t, Value.int IntKind.i64 n] 23)).heap.size := by simp
  generalize w.alloc (Obj.cells #[Value.int IntKind.i64 t, Value.int IntKind.i64 n] 23) = W at *
  have HC0 := Lib.hid hC0
  have HC1 := Lib.hid hC1
  clear hC0 hC1
  go_loopw [9, 6] (fun i _ wr => ∃ k : Nat, k ≤ l.length ∧ i = .int .i64 k ∧ (∀ j, j < k → l[j]? ≠ some (t, n)) ∧ Below W.heap.size W wr) (fun i _ _ => l.length - (intOf i).toNat)
  case atStart => exact ⟨0, Nat.zero_le _, rfl, fun j h => absurd h (Nat.not_lt_zero _), Below.refl _ _⟩
  case round =>
    obtain ⟨k, hk, rfl, hno, hbel⟩ := hrel
    have HNO := Lib.hid hno
    have HB := Lib.hid hbel
    clear hno
    have hc0 := cell_in hbel hS HC0.out
    have hc1 := cell_in hbel hS HC1.out
    have hsz : w.heap.size < wr.heap.size := Nat.lt_of_lt_of_le hS hbel.size
    clear hbel
    by_cases hlt : k < l.length
    · obtain ⟨x, y, hxy⟩ := at_lt hlt
      obtain ⟨b, o, rfl, hb, hl⟩ := HL.out (ne_of_lt hlt)
      have hbel := hB1.out.trans (HB.out.mono (Nat.le_of_lt hS))
      obtain ⟨hx, hy⟩ := hl.later hb hbel k x y hxy
      have HXY := Lib.hid hxy
      clear hxy hl hbel
      have hin := fun h : x = t ∧ y = n => mem_of_at (l := l) (s := (t, n)) (k := k) (by rw [HXY.out, h.1, h.2])
      have HIN := Lib.hid hin
      clear hin
      go_wp2
      · go_ret
        exact ⟨ret_bool ((HIN.out ⟨by assumption, by assumption⟩).symm.trans HV.out), (hB1.out.trans (HB.out.mono (Nat.le_of_lt hS))).alloc (Nat.le_of_lt hsz) _⟩
      all_goals
        go_roundw
        case rel =>
          refine ⟨k + 1, hlt, by go_num, fun j hj he => ?_, HB.out.alloc HB.out.size _⟩
          rcases Nat.lt_or_ge j k with h | h
          · exact HNO.out j h he
          · obtain rfl : j = k := by omega
            rw [HXY.out] at he
            simp only [Option.some.injEq, Prod.mk.injEq] at he
            simp_all
        case measure => simp [intOf]; omega
    · go_wp2
      go_ret
      exact ⟨ret_bool ((not_mem_of_none fun j hj => HNO.out j (by omega)).symm.trans HV.out), hB1.out.trans (HB.out.mono (Nat.le_of_lt hS))⟩
set_option maxHeartbeats 400000 in
theorem maxfunc_any (a : Option Addr) (cap : Nat) (l : List (Int × Int)) (w : World) (hlen : l.length ≤ 1000000) (hne : l ≠ []) (hl : SL w a l) :
    Calls Try.prog 46 #[.slice a l.length cap, .func (.func 17) #[] #[]] w fun e w' => e = .returned (.agg #[.int .i64 (maxL l).1, .int .i64 (maxL l).2]) ∧ Below w.heap.size w w' := by
  obtain ⟨b, o, rfl, hb, hl⟩ := hl hne
  have h0 : 0 < l.length := List.length_pos_iff.2 hne
  obtain ⟨x0, y0, h00⟩ := at_lt h0
  obtain ⟨hx0, hy0⟩ := hl 0 x0 y0 h00
  simp only [Nat.zero_mul, Nat.add_zero] at hx0 hy0
  have H00 := Lib.hid h00
  have HL := Lib.hid hl
  clear h00 hl
  go_enter Try.func46, Try.ntmps46
  go_wp2
  have hB0 : Hid (Below w.heap.size w ((w.alloc (Obj.cells #[Value.int IntKind.i64 0, Value.int IntKind.i64 0] 23)).alloc (Obj.cells #[Value.int IntKind.i64 x0, Value.int IntKind.i64 y0] 23))) := ((Below.refl _ _).alloc (Nat.le_refl _) _).alloc (by simp) _
  have hR0 : Own2 ((w.alloc (Obj.cells #[Value.int IntKind.i64 0, Value.int IntKind.i64 0] 23)).alloc (Obj.cells #[Value.int IntKind.i64 x0, Value.int IntKind.i64 y0] 23)) w.heap.size 0 0 := own2_new0 _ _ _ _
  have hM0 : Own2 ((w.alloc (Obj.cells #[Value.int IntKind.i64 0, Value.int IntKind.i64 0] 23)).alloc (Obj.cells #[Value.int IntKind.i64 x0, Value.int IntKind.i64 y0] 23)) (w.heap.size + 1) x0 y0 := own2_new1 _ _ _ _
  generalize (w.alloc (Obj.cells #[Value.int IntKind.i64 0, Value.int IntKind.i64 0] 23)).alloc (Obj.cells #[Value.int IntKind.i64 x0, Value.int IntKind.i64 y0] 23) = W at *
  go_loopw [6] (fun i wr => ∃ k : Nat, 1 ≤ k ∧ k ≤ l.length ∧ i = .int .i64 k ∧ Below w.heap.size w wr ∧ Own2 wr w.heap.size 0 0 ∧ Own2 wr (w.heap.size + 1) (maxL (l.take k)).1 (maxL (l.take k)).2) (fun i _ => l.length - (intOf i).toNat)
  case atStart => exact ⟨1, Nat.le_refl _, h0, rfl, hB0.out, hR0, by rw [maxL_one l _ H00.out]; exact hM0⟩
  case round =>
    obtain ⟨k, hk1, hk, rfl, hbel, hR, hM⟩ := hrel
    have HB := Lib.hid hbel
    clear hR0 hM0
    obtain ⟨mx, my, hm⟩ : ∃ mx my, maxL (l.take k) = (mx, my) := ⟨_, _, rfl⟩
    rw [hm] at hM
    have HMX := Lib.hid hm
    clear hm
    have hr0 := hR.c0
    have hr1 := hR.c1
    have hrf0 := hR.f0
    have hrf1 := hR.f1
    have hm0 := hM.c0
    have hm1 := hM.c1
    have hmf0 := hM.f0
    have hmf1 := hM.f1
    have hsz : w.heap.size + 1 < wr.heap.size := hM.lt
    have HR := Lib.hid hR
    have HM := Lib.hid hM
    clear hR hM
    by_cases hlt : k < l.length
    · obtain ⟨x, y, hxy⟩ := at_lt hlt
      obtain ⟨hx, hy⟩ := HL.out.later hb hbel k x y hxy
      have HXY := Lib.hid hxy
      clear hxy hbel
      have kx := cell_grown hx
      have ky := cell_grown hy
      have km0 := cell_grown hm0
      have km1 := cell_grown hm1
      have kf0 := free_grown hm0 hmf0
      have kf1 := free_grown hm1 hmf1
      have hpos := cmpS_pos x y mx my
      have hb1 : w.heap.size ≤ wr.heap.size := HB.out.size
      by_cases hgt : ltS (mx, my) (x, y) = true
      · have hc : 0 < cmpS x y mx my := hpos.2 hgt
        have HGT := Lib.hid hgt
        clear hgt hpos
        go_wp2_with fail
        go_region_held3 (fun w' => w'.cell? ⟨b, o + k * 2, none⟩ = some (.int .i64 x) ∧ w'.cell? ⟨b, o + k * 2 + 1, none⟩ = some (.int .i64 y) ∧ w'.cell? ⟨w.heap.size + 1, 0, none⟩ = some (.int .i64 mx) ∧ w'.cell? ⟨w.heap.size + 1, 1, none⟩ = some (.int .i64 my)) (go_keep)
          (first | (go_at_call 17; refine (compare_grow _ _ _ _ _).mono ?_; rintro e w' ⟨rfl, q, os, rfl⟩))
        go_wp2
        go_roundw
        case rel => exact ⟨k + 1, by omega, hlt, by go_num, ((HB.out.trans ((grow_below wr _ _).mono hb1)).setCell (by simp) _).setCell (by simp) _, ((HR.out.later (grow_below wr _ _) (by omega)).set_other (by simp) _).set_other (by simp) _, by
          rw [maxL_take l k _ hk1 HXY.out, HMX.out, stepM, if_pos HGT.out]
          exact (HM.out.later (grow_below wr _ _) (by omega)).set _ _⟩
        case measure => simp [intOf]; omega
      · have hc : ¬ 0 < cmpS x y mx my := fun h => hgt (hpos.1 h)
        have HGT := Lib.hid hgt
        clear hgt hpos
        go_wp2_with fail
        go_region_held3 (fun w' => w'.cell? ⟨b, o + k * 2, none⟩ = some (.int .i64 x) ∧ w'.cell? ⟨b, o + k * 2 + 1, none⟩ = some (.int .i64 y) ∧ w'.cell? ⟨w.heap.size + 1, 0, none⟩ = some (.int .i64 mx) ∧ w'.cell? ⟨w.heap.size + 1, 1, none⟩ = some (.int .i64 my)) (go_keep)
          (first | (go_at_call 17; refine (compare_grow _ _ _ _ _).mono ?_; rintro e w' ⟨rfl, q, os, rfl⟩))
        go_wp2
        go_roundw
        case rel => exact ⟨k + 1, by omega, hlt, by go_num, HB.out.trans ((grow_below wr _ _).mono hb1), HR.out.later (grow_below wr _ _) (by omega), by
          rw [maxL_take l k _ hk1 HXY.out, HMX.out, stepM, if_neg HGT.out]
          exact HM.out.later (grow_below wr _ _) (by omega)⟩
        case measure => simp [intOf]; omega
    · have hfin : maxL l = (mx, my) := by
        have := HMX.out
        rwa [List.take_of_length_le (by omega)] at this
      have HF := Lib.hid hfin
      clear hfin hbel
      have e0 := (HR.out.set mx my).c0
      have e1 := (HR.out.set mx my).c1
      go_wp2
      exact bodyPost_ret (v := .agg #[.int .i64 mx, .int .i64 my]) (by simp [results, Try.results46, go_sem, e0, e1]) rfl ⟨by rw [HF.out], (HB.out.setCell (by simp) _).setCell (by simp) _⟩

end Go.Proofs.Ytnicdbkjgicliaa
